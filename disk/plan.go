package disk

import "moraine/api"

// plan is what Refuse asked for, as far as it is still to come: so many tries are let by, and so many behind these are refused.
type plan struct {
	after, count int
}

// Refuse plans refusals: so many calls are let by, then so many are refused.
func (d *Disk) Refuse(after, count int) api.Errno {
	if d.isNone() {
		return api.ErrNil
	}
	if after < 0 || count < 0 {
		return api.ErrArg
	}
	d.plan = plan{after, count}
	return api.OK
}

// refuses counts a try, and tells whether it is refused: by the plan, or because the disk is too full for it.
func (d *Disk) refuses(full bool) bool {
	rest, planned := d.plan.next()
	d.plan = rest
	if !planned && !full {
		return false
	}
	d.refused++
	return true
}

// next tells what is left of a plan behind one try, and whether it refuses that try.
func (p plan) next() (rest plan, refused bool) {
	switch {
	case p == plan{}:
		return p, false
	case p.after > 0:
		return plan{p.after - 1, p.count}, false
	default:
		return plan{0, p.count - 1}, true
	}
}
