package match

// every tells whether something holds for each one of a list.
func every[T any](list []T, holds func(T) bool) bool {
	for _, x := range list {
		if !holds(x) {
			return false
		}
	}
	return true
}

// those tells the ones of a list for which something holds, in order.
func those[T any](list []T, holds func(T) bool) []T {
	var out []T
	for _, x := range list {
		if holds(x) {
			out = append(out, x)
		}
	}
	return out
}

// sum tells what the ones of a list come to, put one by one to what is nothing.
func sum[T, S any](list []T, plus func(S, T) S) S {
	var total S
	for _, x := range list {
		total = plus(total, x)
	}
	return total
}
