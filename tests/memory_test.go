package tests

// guarded returns a list as a part of a longer one: what is written into its spare capacity is seen in the whole.
func guarded[T any](list []T) (whole []T, part []T) {
	whole = make([]T, len(list)+3)
	copy(whole, list)
	return whole, whole[:len(list)]
}

// fill overwrites a slice together with its spare capacity.
func fill[T any](list []T, mark T) {
	list = list[:cap(list)]
	for i := range list {
		list[i] = mark
	}
}
