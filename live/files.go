package live

import (
	"slices"

	"moraine/api"
	"moraine/names"
)

// Begin tells that a file is being written.
func (s *Set) Begin(number int) api.Errno {
	if s.isNone() {
		return api.ErrNil
	}
	if number < 1 || number > api.MaxNumber {
		return api.ErrArg
	}
	if _, there := s.writing[number]; there {
		return api.ErrThere
	}
	s.writing[number] = struct{}{}
	return api.OK
}

// End tells that a file is no more being written.
func (s *Set) End(number int) api.Errno {
	if s.isNone() {
		return api.ErrNil
	}
	if _, there := s.writing[number]; !there {
		return api.ErrMissing
	}
	delete(s.writing, number)
	return api.OK
}

// Tables tells the numbers of all tables that are needed, rising.
func (s *Set) Tables() []int {
	if s.isNone() {
		return nil
	}
	var out []int
	for number := range s.neededTables() {
		out = append(out, number)
	}
	slices.Sort(out)
	return out
}

// Obsolete tells which of a disk's names nobody needs.
func (s *Set) Obsolete(names []string, log, manifest int) []string {
	if s.isNone() {
		return nil
	}
	return needs{tables: s.neededTables(), log: log, manifest: manifest}.obsolete(names)
}

// neededTables tells each number of a needed table once.
func (s *Set) neededTables() map[int]struct{} {
	out := map[int]struct{}{}
	for _, v := range s.versions {
		for _, files := range v.levels {
			for _, f := range files {
				out[f.Number] = struct{}{}
			}
		}
	}
	for number := range s.writing {
		out[number] = struct{}{}
	}
	return out
}

// needs is what of a disk is needed: tables, the logs from log on, a manifest.
type needs struct {
	tables        map[int]struct{}
	log, manifest int
}

// obsolete tells those names that are not needed, in the order of names.
func (n needs) obsolete(list []string) []string {
	var out []string
	for _, name := range list {
		if n.isObsolete(name) {
			out = append(out, name)
		}
	}
	return names.Sort(out)
}

func (n needs) isObsolete(name string) bool {
	kind, number, e := names.Parse(name)
	if e != api.OK {
		return false
	}
	switch kind {
	case names.FileLog:
		return number < n.log
	case names.FileTable:
		_, needed := n.tables[number]
		return !needed
	case names.FileManifest:
		return number != n.manifest
	}
	return kind == names.FileTemp
}
