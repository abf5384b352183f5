package txn

import (
	"sync/atomic"

	"lockstep/api"
)

// sight of a place: the number that was found there, or that the transaction read its own, which it wrote ahead and which hangs on no other transaction.
type sight struct {
	number int64
	own    bool
}

// trial is a transaction as it is tried. What it writes is kept from all others till its turn has come. It is tried while nobody else has it: by who took it up first, and then by who settles it.
type trial struct {
	deeds   []api.TxDeed
	sum     int64
	done    bool
	seen    map[int]sight
	written map[int]int64
	waits   atomic.Bool // it has been tried, and nobody has taken it up to settle it
}

// try does the deeds over these places from the beginning on; what came of trying it ahead is forgotten.
func (t *trial) try(places []atomic.Int64) {
	t.sum, t.done = 0, true
	clear(t.seen)
	clear(t.written)
deeds:
	for _, d := range t.deeds {
		switch d.Kind {
		case api.TxAdd:
			t.sum += d.N
		case api.TxClear:
			t.sum = 0
		case api.TxGet:
			t.sum += t.read(places, d.Place)
		case api.TxPut:
			t.written[d.Place] = t.sum
		case api.TxAt:
			t.sum = t.read(places, rest(t.sum, len(places)))
		case api.TxNeed:
			if t.sum < d.N {
				t.done = false
				clear(t.written)
				break deeds
			}
		}
	}
}

// read takes a place's number from outside once at most: others may write there meanwhile, but a transaction that is alone would find again what it found first.
func (t *trial) read(places []atomic.Int64, place int) int64 {
	s, ok := t.seen[place]
	if number, own := t.written[place]; own {
		if !ok {
			t.seen[place] = sight{own: true}
		}
		return number
	}
	if !ok {
		s.number = places[place].Load()
		t.seen[place] = s
	}
	return s.number
}

// rest of a sum by how many places there are: that of a sum below 0 is not below 0 either.
func rest(sum int64, places int) int {
	n := int64(places)
	return int((sum%n + n) % n)
}

// holds: would the transaction see the same, were it tried now? Then all else that came of it would be the same too. That a place was written meanwhile is no matter, if the number is the one it was.
func (t *trial) holds(places []atomic.Int64) bool {
	for place, s := range t.seen {
		if !s.own && places[place].Load() != s.number {
			return false
		}
	}
	return true
}

// write lets the places have what the transaction wrote.
func (t *trial) write(places []atomic.Int64) {
	for place, number := range t.written {
		places[place].Store(number)
	}
}

// tell: what came of it.
func (t *trial) tell() api.TxTold {
	return api.TxTold{Sum: t.sum, Done: t.done, Reads: len(t.seen), Writes: len(t.written)}
}
