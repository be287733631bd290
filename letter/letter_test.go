package letter

import (
	"strings"
	"testing"
)

func TestAllSets(t *testing.T) { // E1, L1
	seen := map[string]int{}
	for set := range 256 {
		s := Text(set)
		if got, ok := Set(s); got != set || !ok {
			t.Errorf("%d is written %q, and read %d, %v", set, s, got, ok)
		}
		seen[s]++
	}
	for s, want := range map[string]int{"-": 0, "a": 1, "h": 128, "bdg": 2 + 8 + 64, "abcdefgh": 255} {
		if got := Text(want); got != s || seen[s] != 1 {
			t.Errorf("%d is written %q, want %q", want, got, s)
		}
	}
}

func TestNoSets(t *testing.T) { // E1, L1
	for _, s := range []string{
		"", "--", "-a", "a-", "ba", "aa", "aba", "i", "`", "A", "1", " ", "a ", " a", "a b", "a,b", "\x00", "\xff", "\u00e4",
		"abcdefgha", "abcdefghi", strings.Repeat("a", 1<<20), strings.Repeat("-", 1<<20),
	} {
		if set, ok := Set(s); set != 0 || ok {
			t.Errorf("%.20q: %d, %v", s, set, ok)
		}
	}
}
