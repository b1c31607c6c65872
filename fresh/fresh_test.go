package fresh

import (
	"slices"
	"testing"
)

// TestNames is what P15.3, P19.1 and P23.1 depend on: the least numbers that are free, for each base.
func TestNames(t *testing.T) {
	used := []string{"m_1", "m_3", "m_04", "i_2", "m"}
	name := Names(func(name string) bool { return slices.Contains(used, name) })
	for i, want := range []string{"m_2", "m_4", "i_1", "m_5", "i_3", "i_4", "m_6", "_1", "_2", "a_1"} {
		base := want[:len(want)-2]
		if s := name(base); s != want {
			t.Errorf("%d: the name for %q is %q, want %q", i, base, s, want)
		}
	}
	other := Names(func(name string) bool { return false })
	if s := other("m"); s != "m_1" {
		t.Errorf("the first name is %q", s)
	}
}
