package layers_test

import (
	"go/parser"
	"go/token"
	"path/filepath"
	"slices"
	"strconv"
	"strings"
	"testing"
)

// order tells the layers as the document's map does, the first of all ahead; api, on which all lean, stands below them, as does what they share beside it.
func order() []string {
	return strings.Fields("api steps fresh cursor digits bitmap text crc link token tree canon simple kinds model codes tlv atica element iso fields residue mapping pack disk journal state keeper timers bridge script")
}

// library tells what the language of the program has of Go's library.
func library() []string {
	return strings.Fields("bytes cmp container/heap errors iter maps math math/bits slices sort strconv strings sync sync/atomic unicode unicode/utf8")
}

// imported tells what the files of a layer import, their tests left out.
func imported(t *testing.T, layer string) []string {
	t.Helper()
	files, err := filepath.Glob(filepath.Join("..", layer, "*.go"))
	if err != nil {
		t.Fatal(err)
	}
	var paths []string
	read := 0
	for _, name := range files {
		if strings.HasSuffix(name, "_test.go") {
			continue
		}
		f, err := parser.ParseFile(token.NewFileSet(), name, nil, parser.ImportsOnly)
		if err != nil {
			t.Fatal(err)
		}
		read++
		for _, s := range f.Imports {
			p, err := strconv.Unquote(s.Path.Value)
			if err != nil {
				t.Fatal(err)
			}
			paths = append(paths, p)
		}
	}
	if read == 0 {
		t.Errorf("layer %s has no file", layer)
	}
	return paths
}

func TestLayersLeanOnLowerOnesAlone(t *testing.T) {
	layers := order()
	for i, layer := range layers {
		for _, p := range imported(t, layer) {
			lower, own := strings.CutPrefix(p, "comptoir/")
			if own && slices.Index(layers, lower) >= i {
				t.Errorf("%s leans on %s, which is not below it", layer, lower)
			}
			if !own && !slices.Contains(library(), p) {
				t.Errorf("%s imports %s, which is no package of the program's language", layer, p)
			}
		}
	}
}
