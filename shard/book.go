package shard

import "sync"

// shard is a part of a map under a lock of its own, so that those who work at keys of different shards are not in each other's way.
type shard[V any] struct {
	sync.Mutex
	held map[string]V
}

// change lets the key have what comes, by the rule, of what it had, and answers it. To ask and to put is one thing under the lock, so that no change is lost between them.
func (s *shard[V]) change(key string, rule func(had V, there bool) V) V {
	s.Lock()
	defer s.Unlock()
	had, there := s.held[key]
	has := rule(had, there)
	s.held[key] = has
	return has
}

// book is a map in shards.
type book[V any] []shard[V]

func newBook[V any](shards int) book[V] {
	b := make(book[V], shards)
	for i := range b {
		b[i].held = map[string]V{}
	}
	return b
}

// change of a key, in the one shard that has it.
func (b book[V]) change(key string, rule func(had V, there bool) V) V {
	return b[scatter(key)%uint64(len(b))].change(key, rule)
}

// keys: how many there are in all shards.
func (b book[V]) keys() int {
	count := 0
	for i := range b {
		count += len(b[i].held)
	}
	return count
}

// scatter makes a number of all bytes of a key (by the rule of Fowler, Noll and Vo, 1a), so that keys which are alike seldom crowd in one shard.
func scatter(key string) uint64 {
	n := uint64(14695981039346656037)
	for i := range len(key) {
		n = (n ^ uint64(key[i])) * 1099511628211
	}
	return n
}
