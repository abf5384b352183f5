package scan

import (
	"sync/atomic"
	"testing"

	"lockstep/api"
)

func TestP7P8PartsAreTheWhole(t *testing.T) {
	lengths := []int{api.MaxItems - 1, api.MaxItems}
	for items := range 70 {
		lengths = append(lengths, items)
	}
	for _, items := range lengths {
		for workers := 1; workers <= api.MaxWorkers; workers++ {
			parts := cut(items, workers)
			if len(parts) != min(items, workers) {
				t.Fatalf("%d items, %d workers: %d parts", items, workers, len(parts))
			}
			next := 0
			for _, p := range parts {
				if size := p.to - p.from; p.from != next || size < items/workers || size > items/workers+1 || size < 1 {
					t.Fatalf("%d items, %d workers: a part from %d to %d, where %d is next", items, workers, p.from, p.to, next)
				}
				next = p.to
			}
			if next != items {
				t.Fatalf("%d items, %d workers: the parts end at %d", items, workers, next)
			}
		}
	}
}

// Each waits for all others: one behind the other would never end.
func TestP7P8PartsAreDoneAtATime(t *testing.T) {
	var begun atomic.Int64
	all := make(chan struct{})
	sideBySide(api.MaxWorkers, func(int) {
		if begun.Add(1) == api.MaxWorkers {
			close(all)
		}
		<-all
	})
}

// A part may be joined to the others only as every operator is associative, also of numbers that no operator answers.
func TestP7OperatorsAreAssociative(t *testing.T) {
	numbers := []int64{0, 1, -1, 5, -9, 1 << 32, -1 << 32, 1<<63 - 1, -1 << 63, 1<<63 - 1<<31, 0x7fffffff_7fffffff, 0x7ffffffe_ffffffff}
	for _, op := range []int{api.OpSum, api.OpMax, api.OpLast, api.OpSteps} {
		by, ok := operatorOf(op)
		if !ok {
			t.Fatal("no operator:", op)
		}
		for _, a := range numbers {
			for _, b := range numbers {
				for _, c := range numbers {
					if by.join(by.join(a, b), c) != by.join(a, by.join(b, c)) {
						t.Fatal("not associative:", op, a, b, c)
					}
				}
			}
		}
	}
}
