package sample

import (
	"slices"
	"strconv"
	"strings"

	"cortege/api"
)

// Trees answers a tree for each commit of a history, as pick picks: each has the files of its first parent, but for some that are changed, put in or left out.
func Trees(history [][]int, pick func(k int) int) [][]api.File {
	var trees [][]api.File
	for _, ps := range history {
		var from []api.File
		if len(ps) > 0 {
			from = trees[ps[0]-1]
		}
		trees = append(trees, changed(from, pick))
	}
	return trees
}

// places answers the places of a tree that changed answers. A tree has a file at one path of a place at most, so that none stands under another one; two trees may have unlike paths of one.
func places() [][]string {
	return [][]string{{"a", "a/b"}, {"b"}, {"c/d", "c/d/e"}, {"e"}, {"f"}, {"g"}, {"h/i"}, {"h/j"}, {"k"}, {"l"}, {"m"}, {"n"}, {"o"}, {"p"}, {"q"}}
}

// changed answers a tree of the files of t, but for some places, as pick picks.
func changed(t []api.File, pick func(k int) int) []api.File {
	var files []api.File
	for _, paths := range places() {
		at := slices.IndexFunc(t, func(f api.File) bool { return slices.Contains(paths, f.Path) })
		f := api.File{Path: paths[pick(len(paths))], Data: "0\n-\n0\n-\n0\n"}
		switch {
		case at >= 0 && pick(3) > 0:
			f = t[at]
		case at >= 0 && pick(2) > 0:
			f.Data = changedData(t[at].Data, pick)
		case at < 0 && pick(2) > 0:
			f.Data = changedData(f.Data, pick)
		default:
			continue
		}
		files = append(files, f)
	}
	return files[:min(len(files), api.MaxFiles)]
}

// changedData answers data of a tree that changed answered, with one line of those that do not touch one another changed.
func changedData(data string, pick func(k int) int) string {
	at := 4 * pick(3)
	return data[:at] + strconv.Itoa(pick(4)) + data[at+1:]
}

// Gathered answers a tree for each commit of a history, as pick picks: some commits set a line of a file, or leave a file out, and each has what became of that by itself and by all that it came of. Two such trees often go together.
func Gathered(history [][]int, pick func(k int) int) [][]api.File {
	set := make([]func(data string) string, len(history)+1)
	at := make([]int, len(set))
	for n := range set {
		at[n], set[n] = pick(api.MaxFiles), picked(pick)
	}
	var trees [][]api.File
	for n := range history {
		var files [api.MaxFiles]string
		ahead := Ahead(history, n+1)
		slices.Reverse(ahead)
		for _, m := range ahead {
			files[at[m]] = set[m](files[at[m]])
		}
		trees = append(trees, filled(files[:]))
	}
	return trees
}

// picked answers what a commit of Gathered does to data, of which no bytes stand for a file that is missing.
func picked(pick func(k int) int) func(data string) string {
	kind, line, digit := pick(8), 4*pick(3), strconv.Itoa(1+pick(2))
	return func(data string) string {
		switch {
		case kind < 3:
			return data
		case kind == 3:
			return ""
		case data == "":
			data = "0\n-\n0\n-\n0\n"
		}
		return data[:line] + digit + data[line+1:]
	}
}

// filled answers the files of these data that are not missing, by rising paths.
func filled(data []string) []api.File {
	var files []api.File
	for i, f := range Rising(len(data)) {
		if data[i] != "" {
			files = append(files, api.File{Path: f.Path, Data: data[i]})
		}
	}
	return files
}

// Great answers n trees of as many files as may be. Each file has as many lines as may be told apart, one of them as pick picks.
func Great(n int, pick func(k int) int) [][]api.File {
	var trees [][]api.File
	for range n {
		t := Rising(api.MaxFiles)
		for i := range t {
			lines := slices.Repeat([]string{"line\n"}, api.MaxLines)
			lines[pick(api.MaxLines)] = string(byte('a'+pick(26))) + "\n"
			t[i].Data = strings.Join(lines, "")
		}
		trees = append(trees, t)
	}
	return trees
}
