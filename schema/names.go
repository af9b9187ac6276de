package schema

import "fascicle/api"

// names has names that stand, each with how many stood ahead of it.
type names map[string]int

// take tells whether s is a name that does not stand yet: then it does.
func (n names) take(s string) bool {
	if !isName(s) {
		return false
	}
	if _, stands := n[s]; stands {
		return false
	}
	n[s] = len(n)
	return true
}

func isName(s string) bool {
	if len(s) < 1 || len(s) > api.MaxName {
		return false
	}
	for i := range len(s) {
		if c := s[i]; (c < 'a' || c > 'z') && (c < '0' || c > '9') {
			return false
		}
	}
	return true
}
