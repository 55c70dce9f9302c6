package merge

import "moraine/api"

// nowhere is what From tells, where it stands at no entry.
const nowhere = -1

// Merged goes through all entries of its sources.
type Merged struct {
	sources []Source // nil in a plain Merged{} alone, which by that is told from one that New gave
	heads   heads    // it stands at the top; without one behind, if it went on, and ahead, if it went back
}

// New merges sources.
func New(l ...Source) *Merged {
	return &Merged{sources: append([]Source{}, l...), heads: heads{back: true}}
}

// First goes to the first one.
func (m *Merged) First() bool {
	return !m.isNone() && m.start(false)
}

// Last goes to the last one.
func (m *Merged) Last() bool {
	return !m.isNone() && m.start(true)
}

// Seek goes to the first one that is not below a key.
func (m *Merged) Seek(k api.IKey) bool {
	return !m.isNone() && m.gather(false, func(_ int, s Source) bool { return s.Seek(k) })
}

// Next goes on by one.
func (m *Merged) Next() bool {
	return !m.isNone() && m.walk(false)
}

// Prev goes back by one.
func (m *Merged) Prev() bool {
	return !m.isNone() && m.walk(true)
}

// Here tells where it stands.
func (m *Merged) Here() (api.Entry, bool) {
	if m.isNone() || m.heads.isEmpty() {
		return api.Entry{}, false
	}
	return m.heads.top().entry, true
}

// From tells the number of the source that it stands on.
func (m *Merged) From() int {
	switch {
	case m.isNone():
		return 0
	case m.heads.isEmpty():
		return nowhere
	}
	return m.heads.top().from
}

func (m *Merged) isNone() bool {
	return m == nil || m.sources == nil
}

// start goes to the entry at which a way begins: on the first one, back the last one.
func (m *Merged) start(back bool) bool {
	return m.gather(back, func(_ int, s Source) bool {
		if back {
			return s.Last()
		}
		return s.First()
	})
}

// walk goes by one, on or back.
func (m *Merged) walk(back bool) bool {
	isOther := back != m.heads.back
	switch {
	case m.heads.isEmpty() && isOther:
		// It stands at the end at which this way begins.
		return m.start(back)
	case m.heads.isEmpty():
		return false
	case isOther:
		return m.turn(back)
	}
	return m.advance()
}

// advance moves the source whose entry it stands at; the others stand where it has not come to yet.
func (m *Merged) advance() bool {
	at := m.heads.top()
	x, there := enter(m.sources[at.from], func(s Source) bool { return step(s, m.heads.back) })
	if there {
		m.heads.replace(x)
	} else {
		m.heads.drop()
	}
	return !m.heads.isEmpty()
}

// turn goes by one the other way than ahead: each source comes to the other side of the entry at which it stands.
func (m *Merged) turn(back bool) bool {
	at := m.heads.top()
	here := keyOf(at.entry)
	past := after(here)
	return m.gather(back, func(from int, s Source) bool {
		// The others are sought, not stepped: entries may have come on either side of where they stand.
		switch {
		case from == at.from:
			return step(s, back)
		case from < at.from:
			// What it has that is alike stands ahead.
			return seek(s, past, back)
		}
		return seek(s, here, back)
	})
}

// step moves a source by one, on or back.
func step(s Source, back bool) bool {
	if back {
		return s.Prev()
	}
	return s.Next()
}

// seek puts a source to the first entry that is not below a key, or back to the last one that is.
func seek(s Source, k api.IKey, back bool) bool {
	there := s.Seek(k)
	if back {
		// Also from behind: if none is at the key or above it, the last one is it.
		return s.Prev()
	}
	return there
}

// gather moves all sources, and stands at the first or the last of the entries to which they came.
func (m *Merged) gather(back bool, move func(from int, s Source) bool) bool {
	list := make([]head, 0, len(m.sources))
	for from, s := range m.sources {
		if x, there := enter(s, func(s Source) bool { return move(from, s) }); there {
			list = append(list, head{from, x})
		}
	}
	m.heads.fill(list, back)
	return !m.heads.isEmpty()
}

// enter moves a source, and tells the entry at which it stands then. One that is nil has nothing; one that panics, as a nil pointer in it may, has nothing either.
func enter(s Source, move func(s Source) bool) (x api.Entry, there bool) {
	defer func() {
		if recover() != nil {
			x, there = api.Entry{}, false
		}
	}()
	if s == nil || !move(s) {
		return api.Entry{}, false
	}
	return s.Here()
}
