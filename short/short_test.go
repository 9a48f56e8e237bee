package short

import (
	"slices"
	"testing"
)

// Tests of the layers rest on it that no text is left out, and none is there twice.
func TestTexts(t *testing.T) {
	for _, c := range []struct {
		signs string
		most  int
		want  []string
	}{
		{"ab", 2, []string{"", "a", "b", "aa", "ab", "ba", "bb"}},
		{"ab", 0, []string{""}},
		{"ab", -1, []string{""}},
		{"", 2, []string{""}},
		{"\xff", 2, []string{"", "\xff", "\xff\xff"}},
	} {
		if got := Texts(c.signs, c.most); !slices.Equal(got, c.want) {
			t.Errorf("Texts(%q, %d) = %q", c.signs, c.most, got)
		}
	}
	if got := len(Texts("abc", 4)); got != 1+3+9+27+81 {
		t.Error(got)
	}
}
