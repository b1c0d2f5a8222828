package clocks

import (
	"cmp"
	"slices"
)

// count is how many accesses of a goroutine are known, or the number of one of them.
type count struct {
	who, number int
}

// counts are by rising who. Those that are 0 are left out, so that what is known of few goroutines takes little
// room, however many there are.
type counts []count

// find is where the count of who stands, or would stand.
func (c counts) find(who int) (int, bool) {
	return slices.BinarySearchFunc(c, who, func(x count, who int) int {
		return cmp.Compare(x.who, who)
	})
}

// of is the count of who.
func (c counts) of(who int) int {
	if i, found := c.find(who); found {
		return c[i].number
	}
	return 0
}

// with has another count of who; it may change c itself.
func (c counts) with(who, number int) counts {
	i, found := c.find(who)
	if !found {
		return slices.Insert(c, i, count{who, number})
	}
	c[i].number = number
	return c
}

// cover tells whether no count of the others is above the one of c.
func (c counts) cover(others ...counts) bool {
	for _, other := range others {
		for _, x := range other {
			if c.of(x.who) < x.number {
				return false
			}
		}
	}
	return true
}

// joined has of each goroutine the greatest count of them all, in new memory.
func joined(all ...counts) counts {
	var sum counts
	for _, one := range all {
		sum = merged(sum, one)
	}
	return sum
}

// merged has of each goroutine the greater count of the two, in new memory.
func merged(a, b counts) counts {
	both := make(counts, 0, max(len(a), len(b)))
	for len(a) > 0 && len(b) > 0 {
		switch cmp.Compare(a[0].who, b[0].who) {
		case -1:
			both, a = append(both, a[0]), a[1:]
		case 1:
			both, b = append(both, b[0]), b[1:]
		default:
			both = append(both, count{a[0].who, max(a[0].number, b[0].number)})
			a, b = a[1:], b[1:]
		}
	}
	return append(append(both, a...), b...)
}
