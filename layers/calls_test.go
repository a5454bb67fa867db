package layers_test

import (
	"comptoir/api"
	"comptoir/atica"
	"comptoir/bitmap"
	"comptoir/bridge"
	"comptoir/canon"
	"comptoir/codes"
	"comptoir/crc"
	"comptoir/cursor"
	"comptoir/digits"
	"comptoir/disk"
	"comptoir/element"
	"comptoir/fields"
	"comptoir/iso"
	"comptoir/journal"
	"comptoir/keeper"
	"comptoir/kinds"
	"comptoir/link"
	"comptoir/mapping"
	"comptoir/model"
	"comptoir/pack"
	"comptoir/residue"
	"comptoir/script"
	"comptoir/simple"
	"comptoir/state"
	"comptoir/text"
	"comptoir/timers"
	"comptoir/tlv"
	"comptoir/token"
	"comptoir/tree"
)

// The calls that the chapters list: this does not compile unless each is there just as it is listed.
var (
	// doc/01-cursor.md
	_ func([]byte) *cursor.Cursor                   = cursor.New
	_ func(*cursor.Cursor, int) ([]byte, api.Errno) = (*cursor.Cursor).Take
	_ func(*cursor.Cursor, int) (string, api.Errno) = (*cursor.Cursor).Text
	_ func(*cursor.Cursor, int) (uint64, api.Errno) = (*cursor.Cursor).Number
	_ func(*cursor.Cursor) int                      = (*cursor.Cursor).Left
	_ func(*cursor.Cursor) int                      = (*cursor.Cursor).At
	_ func([]byte, uint64, int) []byte              = cursor.Put
	// doc/02-digits.md
	_ func(string, int, int) bool           = digits.Right
	_ func(string) (uint64, api.Errno)      = digits.Number
	_ func(uint64, int) (string, api.Errno) = digits.Text
	_ func(string) ([]byte, api.Errno)      = digits.Bcd
	_ func([]byte, int) (string, api.Errno) = digits.UnBcd
	_ func([]byte) string                   = digits.Hex
	_ func(string) ([]byte, api.Errno)      = digits.UnHex
	// doc/03-bitmap.md
	_ func([]int) ([]byte, api.Errno)      = bitmap.Write
	_ func([]byte) ([]int, int, api.Errno) = bitmap.Parse
	// doc/04-text.md
	_ func(string) bool           = text.Utf8
	_ func(string) int            = text.Runes
	_ func(string, int, int) bool = text.Plain
	_ func(string, int) bool      = text.Ans
	_ func(string, int, int) bool = text.Aln
	// doc/05-crc.md
	_ func([]byte) uint32              = crc.Of
	_ func([]byte) []byte              = crc.Seal
	_ func([]byte) ([]byte, api.Errno) = crc.Open
	// doc/06-link.md
	_ func() *link.Link                              = link.New
	_ func(*link.Link, []byte) ([][]byte, api.Errno) = (*link.Link).Feed
	_ func([]byte) ([]byte, api.Errno)               = link.Frame
	// doc/07-token.md
	_ func(string) ([]api.Token, api.Errno) = token.Tokens
	// doc/08-tree.md
	_ func([]api.Token) ([]api.Node, api.Errno) = tree.Build
	_ func(string) ([]api.Node, api.Errno)      = tree.Parse
	_ func([]api.Node, int) []int               = tree.Kids
	// doc/09-canon.md
	_ func([]api.Node) bool                = canon.Right
	_ func([]api.Node) (string, api.Errno) = canon.Write
	// doc/10-simple.md
	_ func(api.Child, string) api.Errno = simple.Check
	_ func(string) bool                 = simple.Time
	_ func(string) (string, api.Errno)  = simple.TimeText
	_ func(string) (string, api.Errno)  = simple.TimeOf
	_ func(uint64) (string, api.Errno)  = simple.AmountText
	_ func(string) (uint64, api.Errno)  = simple.AmountOf
	// doc/11-kinds.md
	_ func(int) string            = kinds.Code
	_ func(string) int            = kinds.OfCode
	_ func(int) string            = kinds.Mti
	_ func(string) int            = kinds.OfMti
	_ func(int) int               = kinds.Answer
	_ func(int) bool              = kinds.Money
	_ func(api.Message) api.Errno = kinds.Fits
	// doc/12-model.md
	_ func(string) ([]api.Child, bool) = model.Of
	_ func([]api.Node) api.Errno       = model.Check
	// doc/13-codes.md
	_ func(string) (string, string, bool) = codes.Words
	_ func(string, string) (string, bool) = codes.Action
	_ func(string) bool                   = codes.Known
	_ func(string) bool                   = codes.Yes
	_ func() []string                     = codes.All
	// doc/14-tlv.md
	_ func([]byte) ([]api.Tag, api.Errno) = tlv.Parse
	_ func([]api.Tag) ([]byte, api.Errno) = tlv.Write
	// doc/15-atica.md
	_ func(string) (api.Message, api.Errno) = atica.Decode
	_ func(api.Message) (string, api.Errno) = atica.Encode
	_ func(string) (api.Message, bool)      = atica.Head
	// doc/16-element.md
	_ func(int) (api.Format, bool)               = element.Of
	_ func(api.Element) api.Errno                = element.Check
	_ func(int, []byte) ([]byte, int, api.Errno) = element.Read
	_ func(api.Element) ([]byte, api.Errno)      = element.Write
	_ func(int) bool                             = element.Spare
	// doc/17-iso.md
	_ func([]byte) (api.Iso, api.Errno) = iso.Parse
	_ func(api.Iso) ([]byte, api.Errno) = iso.Pack
	// doc/18-fields.md
	_ func([]byte) (api.Message, api.Errno) = fields.Decode
	_ func(api.Message) ([]byte, api.Errno) = fields.Encode
	_ func([]byte) (api.Message, bool)      = fields.Head
	// doc/19-residue.md
	_ func(api.Message, int) (api.Message, api.Residue) = residue.Split
	_ func(api.Message, api.Residue) api.Message        = residue.Join
	_ func(api.Residue) bool                            = residue.Empty
	// doc/20-mapping.md
	_ func(int, []byte) (api.Message, api.Errno)                                  = mapping.Decode
	_ func(int, api.Message) ([]byte, api.Errno)                                  = mapping.Encode
	_ func(int, []byte) (api.Message, bool)                                       = mapping.Head
	_ func(api.Message, int, api.State, int) (api.Message, []api.Deed, api.Errno) = mapping.Translate
	// doc/21-pack.md
	_ func([]api.Deed) []byte              = pack.Deeds
	_ func([]byte) ([]api.Deed, api.Errno) = pack.Parse
	// doc/22-disk.md
	_ func() *disk.Disk                       = disk.New
	_ func(*disk.Disk, int) []byte            = (*disk.Disk).Slot
	_ func(*disk.Disk, int, []byte) api.Errno = (*disk.Disk).Append
	_ func(*disk.Disk, int) api.Errno         = (*disk.Disk).Erase
	_ func(*disk.Disk, int)                   = (*disk.Disk).Tear
	_ func(*disk.Disk) bool                   = (*disk.Disk).Torn
	_ func(*disk.Disk)                        = (*disk.Disk).Mend
	// doc/23-journal.md
	_ func([]byte) []byte          = journal.Record
	_ func([]byte) ([][]byte, int) = journal.Scan
	// doc/24-state.md
	_ func() api.State                          = state.New
	_ func(api.State, []api.Deed) api.State     = state.Apply
	_ func(api.State) []api.Deed                = state.Whole
	_ func(api.State, int) (api.Exchange, bool) = state.Find
	// doc/25-keeper.md
	_ func(*disk.Disk) *keeper.Keeper            = keeper.Open
	_ func(*keeper.Keeper) api.State             = (*keeper.Keeper).State
	_ func(*keeper.Keeper, []api.Deed) api.Errno = (*keeper.Keeper).Commit
	_ func(*keeper.Keeper) uint64                = (*keeper.Keeper).Epoch
	_ func(*keeper.Keeper) int                   = (*keeper.Keeper).Slot
	// doc/26-timers.md
	_ func() *timers.Heap                    = timers.New
	_ func(*timers.Heap, int, uint64)        = (*timers.Heap).Set
	_ func(*timers.Heap, int) bool           = (*timers.Heap).Drop
	_ func(*timers.Heap) (int, uint64, bool) = (*timers.Heap).Next
	_ func(*timers.Heap, uint64) []int       = (*timers.Heap).Due
	_ func(*timers.Heap) int                 = (*timers.Heap).Len
	// doc/27-bridge.md
	_ func(api.Caps) *bridge.Switch                            = bridge.New
	_ func(api.Caps, *disk.Disk) (*bridge.Switch, []api.Frame) = bridge.Start
	_ func(*bridge.Switch, api.Step) ([]api.Frame, api.Errno)  = (*bridge.Switch).Step
	_ func(*bridge.Switch) api.State                           = (*bridge.Switch).State
	_ func(*bridge.Switch) *disk.Disk                          = (*bridge.Switch).Disk
	// doc/28-script.md
	_ func([]byte) []api.Step                               = script.Decode
	_ func(api.Caps, []api.Step) ([][]api.Frame, api.State) = script.Run
	_ func([][]api.Frame) string                            = script.Text
)
