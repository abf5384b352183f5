package scan

import "sync"

// part of a list: where it begins, and where the next one does.
type part struct{ from, to int }

// cut leaves no part empty: each is to have a number under every operator.
func cut(items, workers int) []part {
	parts := make([]part, min(items, workers))
	for k := range parts {
		parts[k] = part{from: k * items / len(parts), to: (k + 1) * items / len(parts)}
	}
	return parts
}

// sideBySide does all of them at a time, and answers when all are done.
func sideBySide(count int, do func(k int)) {
	var all sync.WaitGroup
	all.Add(count)
	for k := range count {
		go func() {
			defer all.Done()
			do(k)
		}()
	}
	all.Wait()
}
