package warp

import (
	"cmp"

	"lockstep/api"
)

// mail: a letter, and where it stands in the order in which letters are sent. It never changes, so that who sent it and who reads it may both keep it.
type mail struct {
	api.Letter
	sentAt int // handedIn, or the time of the letter for which it was sent
	by     int // who sent it
	nth    int // which of those that its sender read was the letter for which it was sent; of those handed in: which of them it is
}

// handedIn is ahead of all times, as what was handed in comes ahead of what was sent.
const handedIn = -1

// byOrder: in which order two letters come to one actor. No two that stand side by side are the same in all of it: a letter makes its reader send one at most.
func byOrder(a, b *mail) int {
	return cmp.Or(
		cmp.Compare(a.Time, b.Time),
		cmp.Compare(a.sentAt, b.sentAt),
		cmp.Compare(a.by, b.by),
		cmp.Compare(a.nth, b.nth),
	)
}

// slip goes from actor to actor: here is a letter, or it is taken back.
type slip struct {
	*mail
	back bool
}
