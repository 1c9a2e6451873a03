package arena

import "iter"

// each returns what becomes of the elements of a list.
func each[A, B any](l []A, become func(A) B) []B {
	var became []B
	for _, x := range l {
		became = append(became, become(x))
	}
	return became
}

// list returns what is yielded of some values, of one after the other.
func list[A, B any](of iter.Seq[A], yields func(A, func(B) bool)) []B {
	var l []B
	for x := range of {
		yields(x, func(y B) bool {
			l = append(l, y)
			return true
		})
	}
	return l
}
