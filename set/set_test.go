package set

import "testing"

// block is a thing of several fields, held against others whole.
type block struct{ disk, number int }

// wantHas asks for what is in a set, and what is not.
func wantHas[T comparable](t *testing.T, s Set[T], in, out []T) {
	t.Helper()
	for _, thing := range in {
		if !s.Has(thing) {
			t.Errorf("%v has not %v", s, thing)
		}
	}
	for _, thing := range out {
		if s.Has(thing) {
			t.Errorf("%v has %v", s, thing)
		}
	}
	if len(s) != len(in) {
		t.Errorf("%v has %d things, want %d", s, len(s), len(in))
	}
}

// TestSet (17.1): a thing is in a set when it was added, once or more often, and no other one is.
func TestSet(t *testing.T) {
	numbers := Set[int]{}
	wantHas(t, numbers, nil, []int{0, 1, -1})
	numbers.Add(0)
	wantHas(t, numbers, []int{0}, []int{1, -1, 1 << 32})
	numbers.Add(-1)
	numbers.Add(0)
	wantHas(t, numbers, []int{0, -1}, []int{1, 1 << 32})

	blocks := Set[block]{}
	blocks.Add(block{disk: 1, number: 2})
	wantHas(t, blocks, []block{{1, 2}}, []block{{}, {2, 1}, {1, 0}, {0, 2}})
}

// TestTwoSets (17.1, P2): two sets share nothing.
func TestTwoSets(t *testing.T) {
	one, other := Set[int]{}, Set[int]{}
	one.Add(7)
	other.Add(8)
	wantHas(t, one, []int{7}, []int{8})
	wantHas(t, other, []int{8}, []int{7})
}
