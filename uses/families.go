package uses

import "recast/api"

// families is for each place the set of those that it belongs together with, by what was learnt so far.
type families map[Place]*set

// of is the set that a place is in: one of its own, if it was not met yet.
func (f families) of(p Place) *set {
	s, met := f[p]
	if !met {
		s = newSet(p)
		f[p] = s
	}
	return s
}

// join makes one set of those of two places. The lesser one goes into the greater one, so that no place goes often.
func (f families) join(p, q Place) {
	s, t := f.of(p), f.of(q)
	if s == t {
		return
	}
	if s.size() < t.size() {
		s, t = t, s
	}
	for x := range t.each() {
		s.add(x)
		f[x] = s
	}
	s.barred = s.barred || t.barred
}

// learn joins what belongs together in one configuration.
func (f families) learn(k *known) {
	first := map[int]Place{} // an object's first place, which stands for it
	for _, u := range k.Uses {
		p := placeOf(u)
		o, found := k.object(u.Obj)
		if !found || o.Kind == api.ObjPackage {
			f.of(p).barred = true
			continue
		}
		if _, met := first[u.Obj]; !met {
			first[u.Obj] = p
		}
		f.join(first[u.Obj], p)
	}
	for x, y := range k.kin {
		p, used := first[x]
		if q, too := first[y]; used && too {
			f.join(p, q)
		}
	}
}
