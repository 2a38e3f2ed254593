package store

import (
	"iter"
	"maps"
	"slices"
	"strings"

	"odometer/api"
	"odometer/label"
)

// Get is a series; true: it is there.
func (s *Store) Get(name string) (api.Last, bool) {
	if s == nil {
		return api.Last{}, false
	}
	last, there := s.series[name]
	if !there {
		return api.Last{}, false
	}
	x := *last
	x.Sample.Name = strings.Clone(x.Sample.Name)
	return x, true
}

// Len is how many series there are.
func (s *Store) Len() int {
	if s == nil {
		return 0
	}
	return len(s.series)
}

// Live is how many series are live.
func (s *Store) Live() int {
	if s == nil {
		return 0
	}
	live := 0
	for _, last := range s.series {
		if last.Live {
			live++
		}
	}
	return live
}

// All goes over the series by rising names, as they are now: what is put later does not change what it goes over.
func (s *Store) All() iter.Seq2[string, api.Last] {
	list := s.list()
	return func(yield func(string, api.Last) bool) {
		for _, x := range list {
			if !yield(x.Sample.Name, x) {
				return
			}
		}
	}
}

// Copy is a store of the same, which goes on apart from s.
func (s *Store) Copy() *Store {
	if s == nil {
		return nil
	}
	c := New(s.most)
	for name := range s.series {
		x, _ := s.Get(name)
		c.series[x.Sample.Name] = &x
	}
	return c
}

// Same: have both the same, and room for as many?
func (s *Store) Same(o *Store) bool {
	if s == nil || o == nil {
		return s == o
	}
	if s.most != o.most || s.Len() != o.Len() {
		return false
	}
	for name, x := range s.All() {
		if other, is := o.Get(name); !is || x != other {
			return false
		}
	}
	return true
}

// list is all series, by rising names.
func (s *Store) list() []api.Last {
	if s == nil {
		return nil
	}
	list := make([]api.Last, 0, len(s.series))
	for _, name := range slices.SortedFunc(maps.Keys(s.series), label.Compare) {
		x, _ := s.Get(name)
		list = append(list, x)
	}
	return list
}
