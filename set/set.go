// Package set has sets of things that can be held against each other.
package set

// Set of things, each of which is in it once.
type Set[T comparable] map[T]struct{}

// Add a thing.
func (s Set[T]) Add(thing T) { s[thing] = struct{}{} }

// Has tells whether a thing is in the set.
func (s Set[T]) Has(thing T) bool {
	_, has := s[thing]
	return has
}
