/- A message's cells. -/
import Derived.Test.YtijlekikmkeihaaDoorBase
namespace Go.Proofs.YtijlekikmkeihaaDoor
set_option linter.unusedVariables false

/-- a message, as its cells have it -/
structure MsgC where
  kind : Int
  stan : Int
  time : ByteArray
  acq : ByteArray
  pan : ByteArray
  cur : ByteArray
  amount : Int
  rrn : ByteArray
  mer : ByteArray
  ter : ByteArray
  app : ByteArray
  entry : Int
  act : ByteArray
  rea : ByteArray
  ostan : Int
  otime : ByteArray
  tA : Option Addr
  tn : Nat
  tc : Nat
  key : ByteArray
  note : ByteArray
  eA : Option Addr
  en : Nat
  ec : Nat
  oA : Option Addr
  on : Nat
  oc : Nat
def MsgC.cells (m : MsgC) : List Value := [.int .i64 m.kind, .int .i64 m.stan, .string m.time, .string m.acq, .string m.pan, .string m.cur, .int .u64 m.amount, .string m.rrn, .string m.mer, .string m.ter, .string m.app, .int .i64 m.entry, .string m.act, .string m.rea, .int .i64 m.ostan, .string m.otime, .slice m.tA m.tn m.tc, .string m.key, .string m.note, .slice m.eA m.en m.ec, .slice m.oA m.on m.oc]
def MsgC.val (m : MsgC) : Value := .agg #[.int .i64 m.kind, .int .i64 m.stan, .string m.time, .string m.acq, .string m.pan, .string m.cur, .int .u64 m.amount, .string m.rrn, .string m.mer, .string m.ter, .string m.app, .int .i64 m.entry, .string m.act, .string m.rea, .int .i64 m.ostan, .string m.otime, .slice m.tA m.tn m.tc, .string m.key, .string m.note, .slice m.eA m.en m.ec, .slice m.oA m.on m.oc]
/-- what is there: Pan, Currency, Rrn, Merchant, Terminal, Approval, Entry, Action, Reason, Origin, Tags -/
def MsgC.there (m : MsgC) : List Bool := [!(m.pan.toList == []), !(m.cur.toList == []), !(m.rrn.toList == []), !(m.mer.toList == []), !(m.ter.toList == []), !(m.app.toList == []), m.entry != 0, !(m.act.toList == []), !(m.rea.toList == []), !(m.otime.toList == []), decide (0 < m.tn)]
/-- an amount without a currency, or a number of another exchange without its time -/
def MsgC.bad (m : MsgC) : Bool := ((m.cur.toList == []) && (m.amount != 0)) || ((m.otime.toList == []) && (m.ostan != 0))
end Go.Proofs.YtijlekikmkeihaaDoor
