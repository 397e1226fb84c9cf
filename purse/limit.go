package purse

import "cloak/api"

// isTime reports whether n is a time. Windows have the same range.
func isTime(n int) bool { return n >= 0 && n <= api.MaxTime }

// ValidLimit reports whether a limit is valid.
func ValidLimit(l api.Limit) bool {
	return l.Count >= 1 && l.Count <= api.MaxUses && isTime(l.Length) && l.Gate >= api.None && l.Gate < api.MaxGates
}

// Window returns the window of a limit that contains a time.
func Window(l api.Limit, time int) int {
	switch {
	case !ValidLimit(l) || !isTime(time):
		return api.None
	case l.Length == 0:
		return 0
	}
	return time / l.Length
}

// Begins returns the time at which a window of a limit begins.
func Begins(l api.Limit, window int) int {
	if !ValidLimit(l) || !isTime(window) || !isTime(start(l, window)) {
		return api.None
	}
	return start(l, window)
}

// start returns when a window of a valid limit begins, which may be after the last time.
func start(l api.Limit, window int) int { return window * l.Length }
