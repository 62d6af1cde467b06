package sample

import (
	"slices"
	"strconv"

	"cortege/api"
)

// Trees answers a tree for each commit of a history, as pick picks: each has the files of its first parent, but for some that are changed, put in or left out.
func Trees(history [][]int, pick func(k int) int) [][]api.File {
	var trees [][]api.File
	for _, ps := range history {
		var from []api.File
		if len(ps) > 0 {
			from = trees[ps[0]-1]
		}
		trees = append(trees, changed(from, pick))
	}
	return trees
}

// places answers the places of a tree that changed answers. A tree has a file at one path of a place at most, so that none stands under another one; two trees may have unlike paths of one.
func places() [][]string {
	return [][]string{{"a", "a/b"}, {"b"}, {"c/d", "c/d/e"}, {"e"}, {"f"}, {"g"}, {"h/i"}, {"h/j"}, {"k"}, {"l"}, {"m"}, {"n"}, {"o"}, {"p"}, {"q"}}
}

// changed answers a tree of the files of t, but for some places, as pick picks.
func changed(t []api.File, pick func(k int) int) []api.File {
	var files []api.File
	for _, paths := range places() {
		at := slices.IndexFunc(t, func(f api.File) bool { return slices.Contains(paths, f.Path) })
		f := api.File{Path: paths[pick(len(paths))], Data: "0\n-\n0\n-\n0\n"}
		switch {
		case at >= 0 && pick(3) > 0:
			f = t[at]
		case at >= 0 && pick(2) > 0:
			f.Data = changedData(t[at].Data, pick)
		case at < 0 && pick(2) > 0:
			f.Data = changedData(f.Data, pick)
		default:
			continue
		}
		files = append(files, f)
	}
	return files[:min(len(files), api.MaxFiles)]
}

// changedData answers data of a tree that changed answered, with one line of those that do not touch one another changed.
func changedData(data string, pick func(k int) int) string {
	at := 4 * pick(3)
	return data[:at] + strconv.Itoa(pick(4)) + data[at+1:]
}
