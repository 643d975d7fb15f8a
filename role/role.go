// Package role: roles, and what comes with them: see doc/02-role.md.
package role

import "withy/api"

// Check answers an error, if up does not say of roles what comes with them.
func Check(up []int) api.Errno {
	if len(up) > api.MaxRoles {
		return api.ErrLarge
	}
	for i, with := range up {
		if with < 0 || with >= 1<<i {
			return api.ErrArg
		}
	}
	return api.OK
}

// All answers role i and all that come with it, at first or at last, a bit each.
func All(up []int, i int) (int, api.Errno) {
	if e := checkRole(up, i); e != api.OK {
		return 0, e
	}
	all := 1 << i
	// What comes with a role is less than it: on the way down each role is
	// met when all that bring it have been met, so once is enough.
	for k := i; k >= 0; k-- {
		if has(all, k) {
			all |= up[k]
		}
	}
	return all, api.OK
}

// Has tells whether role k is role i, or comes with it, at first or at last.
func Has(up []int, i, k int) (bool, api.Errno) {
	all, e := All(up, i)
	if e != api.OK {
		return false, e
	}
	if !isRole(up, k) {
		return false, api.ErrNone
	}
	return has(all, k), api.OK
}

// Deep answers how many steps the longest way from role i down to one with
// which none comes has.
func Deep(up []int, i int) (int, api.Errno) {
	if e := checkRole(up, i); e != api.OK {
		return 0, e
	}
	// From the least role on, so that each step needs only those done already.
	var deep [api.MaxRoles]int
	for r := range i + 1 {
		for k := range r {
			if has(up[r], k) {
				deep[r] = max(deep[r], deep[k]+1)
			}
		}
	}
	return deep[i], api.OK
}

func checkRole(up []int, i int) api.Errno {
	if e := Check(up); e != api.OK {
		return e
	}
	if !isRole(up, i) {
		return api.ErrNone
	}
	return api.OK
}

func isRole(up []int, i int) bool {
	return i >= 0 && i < len(up)
}

func has(roles, k int) bool {
	return roles>>k&1 == 1
}
