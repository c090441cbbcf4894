package uspec

// find answers the first of which that is so; false without one.
func find[T any](l []T, is func(T) bool) (T, bool) {
	for _, x := range l {
		if is(x) {
			return x, true
		}
	}
	var none T
	return none, false
}
