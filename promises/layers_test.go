package promises

import (
	"go/parser"
	"go/token"
	"path/filepath"
	"slices"
	"strconv"
	"strings"
	"testing"
)

// layers are the packages of the map in DOC.md, in its order.
var layers = []string{
	"num", "floors", "site", "door", "car", "calls", "frame", "link", "plan",
	"route", "bound", "search", "check", "rule", "group", "safe", "world", "tale",
}

// imports gives which packages of the project a package's files import, those of its tests aside.
func imports(t *testing.T, name string) []string {
	t.Helper()
	files, _ := filepath.Glob(filepath.Join("..", name, "*.go"))
	var all []string
	for _, file := range files {
		if strings.HasSuffix(file, "_test.go") {
			continue
		}
		parsed, err := parser.ParseFile(token.NewFileSet(), file, nil, parser.ImportsOnly)
		if err != nil {
			t.Fatal(err)
		}
		for _, one := range parsed.Imports {
			path, _ := strconv.Unquote(one.Path.Value)
			if inside, ok := strings.CutPrefix(path, "paternoster/"); ok {
				all = append(all, inside)
			}
		}
	}
	if len(files) == 0 {
		t.Fatalf("no files of %s", name)
	}
	return all
}

// TestLayers: DOC.md's section 'The map'; a layer calls those with a lesser number alone, and layer 13 layers 1 to 4 and 9 alone.
func TestLayers(t *testing.T) {
	for place, name := range layers {
		may := append([]string{"api"}, layers[:place]...)
		if name == "check" {
			may = []string{"api", "num", "floors", "site", "door", "plan"}
		}
		for _, other := range imports(t, name) {
			if !slices.Contains(may, other) {
				t.Errorf("%s calls %s", name, other)
			}
		}
	}
}
