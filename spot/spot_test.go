package spot

import (
	"testing"

	"cortege/api"
)

func TestAt(t *testing.T) {
	files := []api.File{{Path: "a", Data: "1"}, {Path: "b", Data: ""}, {Path: "a", Data: "2"}}
	for _, c := range []struct {
		path string
		want Spot
	}{
		{"a", Spot{There: true, Data: "1"}},
		{"b", Spot{There: true, Data: ""}},
		{"c", Spot{}},
		{"", Spot{}},
	} {
		if got := At(files, c.path); got != c.want {
			t.Errorf("At %q: %v, not %v", c.path, got, c.want)
		}
	}
	if got := At(nil, "a"); got != (Spot{}) {
		t.Errorf("At of no files: %v", got)
	}
	if At(files, "b") == At(files, "c") {
		t.Error("an empty file is like one that is missing")
	}
}
