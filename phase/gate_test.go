package phase

import (
	"sync"
	"sync/atomic"
	"testing"
)

// In each round all come ahead of what is done between, and none goes on ahead of it; it is done once.
func TestP9GateLetsNobodyThroughAlone(t *testing.T) {
	const rounds = 300
	for many := 1; many <= 16; many++ {
		g := newGate(many)
		var come, between atomic.Int64
		var all sync.WaitGroup
		all.Add(many)
		for range many {
			go func() {
				defer all.Done()
				for round := int64(1); round <= rounds; round++ {
					come.Add(1)
					g.pass(func() {
						if n := come.Load(); n != round*int64(many) {
							t.Error("come so far:", n, round, many)
						}
						between.Add(1)
					})
					if n := between.Load(); n != round {
						t.Error("done between so far:", n, round, many)
					}
				}
			}()
		}
		all.Wait()
	}
}
