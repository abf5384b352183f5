package scan

// fold of one number or more, from the left.
func fold(l []int64, join func(first, second int64) int64) int64 {
	made := l[0]
	for _, n := range l[1:] {
		made = join(made, n)
	}
	return made
}

// folds of the parts, one each.
func folds(l []int64, parts []part, join func(first, second int64) int64) []int64 {
	made := make([]int64, len(parts))
	sideBySide(len(parts), func(k int) {
		made[k] = fold(l[parts[k].from:parts[k].to], join)
	})
	return made
}

// reduce may join what comes of the parts, as every operator is associative.
func reduce(l []int64, by operator, workers int) int64 {
	if len(l) == 0 {
		return by.none
	}
	return fold(folds(l, cut(len(l), workers), by.join), by.join)
}

// prefixes goes through each part twice: its first number hangs on what comes of all parts ahead of it.
func prefixes(l []int64, join func(first, second int64) int64, workers int) []int64 {
	parts := cut(len(l), workers)
	reached := folds(l, parts, join)
	for k := 1; k < len(reached); k++ {
		reached[k] = join(reached[k-1], reached[k])
	}
	made := make([]int64, len(l))
	sideBySide(len(parts), func(k int) {
		p := parts[k]
		made[p.from] = l[p.from]
		if k > 0 {
			made[p.from] = join(reached[k-1], l[p.from])
		}
		for i := p.from + 1; i < p.to; i++ {
			made[i] = join(made[i-1], l[i])
		}
	})
	return made
}
