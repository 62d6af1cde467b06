// Package spot tells what a list of files has at a path, as one value to compare.
package spot

import (
	"cortege/api"
	"cortege/tree"
)

// Spot is a path's file, or none. An empty file is there, and so unlike one that is missing.
type Spot struct {
	There bool
	Data  string
}

// At answers what t has at path.
func At(t []api.File, path string) Spot {
	data, there := tree.Get(t, path)
	return Spot{There: there, Data: data}
}
