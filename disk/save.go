package disk

import "cartulary/api"

// newSuffix is what the name of a file has more while its new content is being written.
const newSuffix = ".new"

// Save is the disk with a file that has just these bytes: as it was till the last step, then all of it.
func Save(d api.Disk, name, s string) (api.Disk, api.Errno) {
	fresh := name + newSuffix
	switch {
	case !Good(d):
		return d, api.ErrRange
	case !Named(name) || !Named(fresh):
		return d, api.ErrForm
	}
	bad := api.OK
	// A save that the power cut off may have left one, and Write would append to it.
	if _, found := find(d.Files, fresh); found {
		if d, bad = Remove(d, fresh); bad != api.OK {
			return d, bad
		}
	}
	if d, bad = Write(d, fresh, s); bad != api.OK {
		return d, bad
	}
	if d, bad = Sync(d, fresh); bad != api.OK {
		return d, bad
	}
	return Rename(d, fresh, name)
}
