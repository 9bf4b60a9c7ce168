package letters

import "tusche/api"

// Rest returns what follows a log in another one.
func Rest(o Office, a, b string) (string, api.Errno) {
	if e := checkLogs(o, a, b); e != api.OK {
		return "", e
	}
	d := newDesk(o, b)
	if !d.openLog(a) {
		return "", api.ErrLost
	}
	return d.openRest(), api.OK
}

// Common returns the common beginning of two logs.
func Common(o Office, a, b string) (string, api.Errno) {
	if e := checkLogs(o, a, b); e != api.OK {
		return "", e
	}
	d := newDesk(o, a)
	common := ""
	for longer := true; longer; {
		common, longer = lengthen(o, d, common, a, b)
	}
	return common, api.OK
}

// lengthen returns a log that begins two others, with one letter more if it then still does, and whether it has this letter. Each letter that both can go on with belongs to their common beginning; the smallest one makes the first form of it.
func lengthen(o Office, d *desk, common, a, b string) (string, bool) {
	for kind := range o.Kinds {
		longer := common + nameOf(kind)
		if d.isBegun(a, longer) && d.isBegun(b, longer) {
			return longer, true
		}
	}
	return common, false
}

// isBegun reports whether a log, which is put on the desk, is begun by another one.
func (d *desk) isBegun(log, beginning string) bool {
	d.put(log)
	return d.openLog(beginning)
}
