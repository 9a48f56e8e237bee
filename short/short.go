// Package short makes short texts: tests go through all of them, so that no edge is left to luck.
package short

// Texts are all texts of some signs (bytes, each there once), up to a length; shorter ones come first.
func Texts(signs string, most int) []string {
	l := []string{""}
	if signs == "" {
		return l
	}
	for at := 0; len(l[at]) < most; at++ {
		for i := range len(signs) {
			l = append(l, l[at]+signs[i:i+1])
		}
	}
	return l
}
