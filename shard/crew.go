package shard

import "sync"

// sideBySide lets so many workers take the lists from a channel, and answers when all of them are done. The channel has room for all lists, and is closed ahead of the work: nobody ever waits for another.
func sideBySide[T any](lists [][]T, workers int, do func(list []T)) {
	ready := make(chan []T, len(lists))
	for _, list := range lists {
		ready <- list
	}
	close(ready)
	var all sync.WaitGroup
	all.Add(workers)
	for range workers {
		go func() {
			defer all.Done()
			for list := range ready {
				do(list)
			}
		}()
	}
	all.Wait()
}
