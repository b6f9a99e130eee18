package files

import (
	"iter"
	"maps"
	"slices"
	"strings"

	"maslin/api"
	"maslin/octet"
)

const (
	countSize = 4 // bytes of a number ahead of what it counts

	// The first byte of the string that a group has for a change's name.
	stays = "\x00"
	goes  = "\x01"
)

// file is what one has.
type file struct{ data string }

// contents is files by their names.
type contents map[string]file

// apply does the changes one by one.
func (c contents) apply(l []api.Change) {
	for _, x := range l {
		if x.Gone {
			delete(c, x.Name)
			continue
		}
		// A part of a longer string would keep all of it.
		c[strings.Clone(x.Name)] = file{strings.Clone(x.Data)}
	}
}

// all goes over the files, in ascending order of their names.
func (c contents) all() iter.Seq2[string, string] {
	return func(yield func(name, data string) bool) {
		for _, name := range slices.Sorted(maps.Keys(c)) {
			if !yield(name, c[name].data) {
				return
			}
		}
	}
}

// size returns the number of bytes of the encoding.
func (c contents) size() int {
	n := countSize
	for name, x := range c {
		n += countSize + len(name) + countSize + len(x.data)
	}
	return n
}

// encoded returns the encoding.
func (c contents) encoded() string {
	var b strings.Builder
	b.Grow(c.size())
	b.WriteString(count(len(c)))
	for name, data := range c.all() {
		b.WriteString(counted(name))
		b.WriteString(counted(data))
	}
	return b.String()
}

// decoded returns the files whose encoding s is.
func decoded(s string) (contents, api.Errno) {
	if len(s) < countSize {
		return nil, api.ErrBad
	}
	n, _ := octet.Get(s[:countSize])
	rest := s[countSize:]
	var l []api.Change
	last := ""
	for range n {
		name, behind, e := cut(rest)
		if e != api.OK {
			return nil, e
		}
		data, behind, e := cut(behind)
		if e != api.OK {
			return nil, e
		}
		x := api.Change{Name: name, Data: data}
		if invalid(x) || name <= last {
			return nil, api.ErrBad
		}
		l, last, rest = append(l, x), name, behind
	}
	if rest != "" {
		return nil, api.ErrBad
	}
	c := contents{}
	c.apply(l)
	return c, api.OK
}

// count returns a number, as it stands ahead of what it counts.
func count(n int) string {
	// What a disk has is less than the number could tell, so there is no error.
	s, _ := octet.Put(uint64(n), countSize)
	return s
}

// counted returns s with its length ahead of it.
func counted(s string) string {
	return count(len(s)) + s
}

// cut returns the string that stands behind its length at the beginning of s, and what is behind it.
func cut(s string) (text, rest string, e api.Errno) {
	if len(s) < countSize {
		return "", "", api.ErrBad
	}
	n, _ := octet.Get(s[:countSize])
	rest = s[countSize:]
	if n > uint64(len(rest)) {
		return "", "", api.ErrBad
	}
	return rest[:n], rest[n:], api.OK
}

// invalid reports whether a change may not be.
func invalid(x api.Change) bool {
	return x.Name == "" || len(x.Name) > api.MaxFileName || len(x.Data) > api.MaxText || x.Gone && x.Data != ""
}

// groupTexts returns the strings of a group with these changes.
func groupTexts(l []api.Change) []string {
	texts := make([]string, 0, 2*len(l))
	for _, x := range l {
		kind := stays
		if x.Gone {
			kind = goes
		}
		texts = append(texts, kind+x.Name, x.Data)
	}
	return texts
}

// readGroups returns the changes of groups, one behind the other.
func readGroups(groups [][]string) ([]api.Change, api.Errno) {
	var l []api.Change
	for _, texts := range groups {
		for pair := range slices.Chunk(texts, 2) {
			x, e := readChange(pair)
			if e != api.OK {
				return nil, e
			}
			l = append(l, x)
		}
	}
	return l, api.OK
}

// readChange returns the change whose strings these are.
func readChange(pair []string) (api.Change, api.Errno) {
	if len(pair) < 2 || pair[0] == "" {
		return api.Change{}, api.ErrBad
	}
	kind, name := pair[0][:len(stays)], pair[0][len(stays):]
	x := api.Change{Name: name, Data: pair[1], Gone: kind == goes}
	if kind != stays && kind != goes || invalid(x) {
		return api.Change{}, api.ErrBad
	}
	return x, api.OK
}
