package check

import (
	"maps"

	"loanbook/api"
)

// set is one of temporaries, or of numbers, by where they stand in their list: of neither there are more than 64.
type set uint64

func only(k int) set { return 1 << k }

func (s set) contains(k int) bool { return s&only(k) != 0 }

// known is what is known of a place: which temporaries it has, and which numbers it is.
type known struct{ has, is set }

func (k known) and(other known) known { return known{k.has & other.has, k.is & other.is} }

// facts are those of one point of a program: of places, and of which numbers temporaries are. Of what is not in the maps nothing is known.
type facts struct {
	places map[api.Place]known
	temps  map[int]set
}

func (f *facts) clone() *facts { return &facts{maps.Clone(f.places), maps.Clone(f.temps)} }

// keep leaves what is known of the places that stay.
func (f *facts) keep(stays func(at api.Place) bool) {
	maps.DeleteFunc(f.places, func(at api.Place, _ known) bool { return !stays(at) })
}
