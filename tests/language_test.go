package tests

import (
	"bytes"
	"go/ast"
	"go/format"
	"go/parser"
	"go/token"
	"os"
	"path/filepath"
	"strconv"
	"strings"
	"testing"
)

const (
	allowed      = " bytes cmp container/heap errors iter maps math math/bits slices sort strconv strings sync sync/atomic unicode unicode/utf8 "
	longestLines = 60
)

func TestLanguage(t *testing.T) {
	files, err := filepath.Glob("../impl/*")
	if err != nil || len(files) == 0 {
		t.Fatal(files, err)
	}
	for _, name := range files {
		if filepath.Ext(name) != ".go" {
			t.Errorf("%s is no Go file", name)
			continue
		}
		source, err := os.ReadFile(name)
		if err != nil {
			t.Fatal(err)
		}
		laid, err := format.Source(source)
		if err != nil || !bytes.Equal(laid, source) {
			t.Errorf("%s is not laid out as gofmt does: %v", name, err)
		}
		if bytes.Contains(source, []byte("//go:")) {
			t.Errorf("%s has a //go: line", name)
		}
		checkFile(t, name, source)
	}
}

func checkFile(t *testing.T, name string, source []byte) {
	places := token.NewFileSet()
	f, err := parser.ParseFile(places, name, source, parser.ParseComments)
	if err != nil {
		t.Fatal(err)
	}
	for _, i := range f.Imports {
		path, _ := strconv.Unquote(i.Path.Value)
		if !strings.Contains(allowed, " "+path+" ") {
			t.Errorf("%s imports %s", name, path)
		}
	}
	for _, d := range f.Decls {
		x, ok := d.(*ast.FuncDecl)
		if !ok {
			continue
		}
		if n := places.Position(x.End()).Line - places.Position(x.Pos()).Line + 1; n > longestLines {
			t.Errorf("%s: %s has %d lines", name, x.Name.Name, n)
		}
	}
}
