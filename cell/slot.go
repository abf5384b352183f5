package cell

import (
	"sync"

	"lockstep/api"
)

// slot is one cell. Its lock is its own, so that tasks over different cells are not in each other's way.
type slot struct {
	sync.Mutex
	told    api.Told
	waiting []int
}

// take answers the value, if there is one. If not, the task is put among those that wait under the same lock, so that no Give can slip in between and leave it asleep.
func (s *slot) take(task int) (value int64, written bool) {
	s.Lock()
	defer s.Unlock()
	if !s.told.Done {
		s.waiting = append(s.waiting, task)
	}
	return s.told.Sum, s.told.Done
}

// give writes the value, and answers the tasks that waited for it. It is called once at most, and once there is a value nobody is put among the waiting any more: so the list may be read without the lock from here on.
func (s *slot) give(value int64) []int {
	s.Lock()
	defer s.Unlock()
	s.told = api.Told{Sum: value, Done: true}
	return s.waiting
}
