package tests

import (
	"go/format"
	"go/parser"
	"go/token"
	"os"
	"path/filepath"
	"strconv"
	"strings"
	"testing"
)

// allowedImports is what the program may import; tests may import anything.
const allowedImports = " bytes cmp container/heap errors iter maps math math/bits slices sort strconv strings sync sync/atomic unicode unicode/utf8 "

func TestProgramKeepsToItsLanguage(t *testing.T) {
	paths, err := filepath.Glob("../impl/*.go")
	if err != nil || len(paths) == 0 {
		t.Fatalf("no files of the program: %v", err)
	}
	for _, path := range paths {
		source, err := os.ReadFile(path)
		if err != nil {
			t.Fatal(err)
		}
		laid, err := format.Source(source)
		if err != nil || string(laid) != string(source) {
			t.Errorf("%s is not laid out as gofmt does: %v", path, err)
		}
		checkImports(t, path, source)
	}
}

func checkImports(t *testing.T, path string, source []byte) {
	t.Helper()
	file, err := parser.ParseFile(token.NewFileSet(), path, source, parser.ImportsOnly)
	if err != nil {
		t.Fatal(err)
	}
	for _, i := range file.Imports {
		name, err := strconv.Unquote(i.Path.Value)
		if err != nil || !strings.Contains(allowedImports, " "+name+" ") {
			t.Errorf("%s imports %s", path, i.Path.Value)
		}
	}
}
