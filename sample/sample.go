// Package sample makes files and commits that the tests of several packages hand in, and writes over lists that they got.
package sample

import (
	"strconv"
	"strings"
	"sync"

	"cortege/api"
)

// Files answers files of paths and data, one behind the other: Files("a", "1", "b", "2").
func Files(pathsAndData ...string) []api.File {
	t := make([]api.File, 0, len(pathsAndData)/2)
	for i := 0; i+1 < len(pathsAndData); i += 2 {
		t = append(t, api.File{Path: pathsAndData[i], Data: pathsAndData[i+1]})
	}
	return t
}

// Rising answers n files that are a tree, if there may be so many, each with data of its own.
func Rising(n int) []api.File {
	var t []api.File
	for i := range n {
		data := strconv.Itoa(i)
		// Paths rise by bytes, and so by numbers of one length alone.
		t = append(t, api.File{Path: "f" + strings.Repeat("0", max(5-len(data), 0)) + data, Data: data})
	}
	return t
}

// Alike answers n files of one data, at paths that begin alike.
func Alike(beginning string, n int, data string) []api.File {
	t := Rising(n)
	for i := range t {
		t[i] = api.File{Path: beginning + t[i].Path, Data: data}
	}
	return t
}

// NoTrees answers lists of files that are no trees, each by one thing alone, and what that is.
func NoTrees() map[string][]api.File {
	long, most := strings.Repeat("p", api.MaxPath), strings.Repeat("d", api.MaxData)
	return map[string][]api.File{
		"paths that fall":                        Files("b", "1", "a", "2"),
		"paths of which the last two fall":       Files("a", "1", "c", "2", "b", "3"),
		"a path twice":                           Files("a", "1", "a", "2"),
		"a file twice":                           Files("a", "1", "a", "1"),
		"a path under another one":               Files("a", "1", "a/b", "2"),
		"a path under one that is not before it": Files("a", "1", "a-b", "2", "a/b", "3"),
		"a path deep under another one":          Files("a", "1", "a/b/c", "2"),
		"the empty path":                         Files("", "1"),
		"a path that is a slash":                 Files("/", "1"),
		"a path with a slash first":              Files("/a", "1"),
		"a path with a slash last":               Files("a/", "1"),
		"a path with two slashes":                Files("a//b", "1"),
		"a path with a byte below the least":     Files("a b", "1"),
		"a path with a byte above the greatest":  Files("a\x7f", "1"),
		"a path with a byte 255":                 Files("\xff", "1"),
		"a last path that is none":               Files("a", "1", "b", "2", "c/", "3"),
		"one file more than MaxFiles":            Rising(api.MaxFiles + 1),
		"far too many files":                     Rising(2000),
		"a path of one byte more than MaxPath":   Files(long+"p", "1"),
		"a path of far too many bytes":           Files(strings.Repeat("p/", 100000)+"p", "1"),
		"data of one byte more than MaxData":     Files("a", most+"d"),
		"data of far too many bytes":             Files("a", strings.Repeat("d", 100000)),
		"the last data of one byte too many":     Files("a", "1", "b", most+"d"),
	}
}

// Spoil writes over a list and all of its spare room, so that whoever shares its memory can be told.
func Spoil[T any](list []T, with T) {
	list = list[:cap(list)]
	for i := range list {
		list[i] = with
	}
}

// AtOnce does it again and again, by several goroutines.
func AtOnce(do func()) {
	var all sync.WaitGroup
	for range 8 {
		all.Go(func() {
			for range 20 {
				do()
			}
		})
	}
	all.Wait()
}
