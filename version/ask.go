package version

import (
	"slices"
	"sort"

	"moraine/api"
)

// Size tells how many bytes a level's files have.
func Size(l api.Levels, level int) int {
	if !Valid(l) || !isThere(l, level) {
		return 0
	}
	n := 0
	for _, f := range l[level] {
		n += f.Size
	}
	return n
}

// Files tells how many files there are.
func Files(l api.Levels) int {
	if !Valid(l) {
		return 0
	}
	return countFiles(l)
}

// Numbers tells the files' numbers, rising.
func Numbers(l api.Levels) []int {
	if !Valid(l) {
		return nil
	}
	return risingNumbers(l)
}

// Over tells a level's files that overlap the keys from least up to limit; an empty limit is none.
func Over(l api.Levels, level int, least, limit string) []api.File {
	if !Valid(l) || !isThere(l, level) || limit != "" && limit <= least {
		return nil
	}
	files := l[level]
	if level == 0 {
		return keep(files, func(f api.File) bool {
			return f.Limit > least && (limit == "" || f.Least < limit)
		})
	}
	from := firstAbove(files, least)
	to := sort.Search(len(files), func(i int) bool {
		return limit != "" && files[i].Least >= limit
	})
	return append([]api.File(nil), files[from:to]...)
}

// Asks tells the files that a key's reader asks, in turn.
func Asks(l api.Levels, key string) []api.Place {
	if !Valid(l) {
		return nil
	}
	var out []api.Place
levels:
	for level, files := range l {
		if level == 0 {
			for _, f := range slices.Backward(files) {
				if f.Least <= key && key < f.Limit {
					out = append(out, api.Place{Number: f.Number})
				}
			}
			continue levels
		}
		i := firstAbove(files, key)
		if i == len(files) || files[i].Least > key {
			continue levels
		}
		out = append(out, api.Place{Level: level, Number: files[i].Number})
	}
	return out
}

// Below tells the files of all levels below one.
func Below(l api.Levels, level int) []api.File {
	if !Valid(l) {
		return nil
	}
	var out []api.File
levels:
	for i, files := range l {
		if i <= level {
			continue levels
		}
		out = append(out, files...)
	}
	return out
}

// Find tells a file by its number.
func Find(l api.Levels, number int) (level int, f api.File, ok bool) {
	if !Valid(l) {
		return 0, api.File{}, false
	}
levels:
	for i, files := range l {
		for _, x := range files {
			if x.Number == number {
				level, f, ok = i, x, true
				break levels
			}
		}
	}
	return level, f, ok
}

// Span tells the keys that files bear on, whether these may be or not.
func Span(l []api.File) (least, limit string, ok bool) {
	for i, f := range l {
		if i == 0 {
			least, limit, ok = f.Least, f.Limit, true
		}
		least, limit = min(least, f.Least), max(limit, f.Limit)
	}
	return least, limit, ok
}

// firstAbove tells the first file whose Limit is above a key, in a level whose Limits rise; else how many files there are.
func firstAbove(files []api.File, key string) int {
	return sort.Search(len(files), func(i int) bool { return files[i].Limit > key })
}

// keep tells those files of which a function says so.
func keep(files []api.File, says func(api.File) bool) []api.File {
	var out []api.File
	for _, f := range files {
		if says(f) {
			out = append(out, f)
		}
	}
	return out
}
