package disk

import (
	"slices"

	"cartulary/api"
)

// change is what a step does to the files of a disk. It works on a copy, so that it may leave anything behind with an
// error.
type change func(files []api.File) ([]api.File, api.Errno)

// step is the disk with a change made to it, if there is power for that.
func step(d api.Disk, apply change) (api.Disk, api.Errno) {
	switch {
	case !Good(d):
		return d, api.ErrRange
	case d.Fuse == 0:
		return d, api.ErrPower
	}
	files, bad := apply(slices.Clone(d.Files))
	if bad != api.OK {
		return d, bad
	}
	return api.Disk{Files: files, Fuse: burnt(d.Fuse)}, api.OK
}

// burnt is what is left of a fuse behind a step; below 0 it does not burn.
func burnt(fuse int) int {
	if fuse > 0 {
		return fuse - 1
	}
	return fuse
}

// Write is the disk with bytes more at a file's end; a file that is not there is made.
func Write(d api.Disk, name, s string) (api.Disk, api.Errno) {
	return step(d, func(files []api.File) ([]api.File, api.Errno) {
		if !Named(name) {
			return nil, api.ErrForm
		}
		i, found := find(files, name)
		if !found {
			if len(files) >= api.MaxFiles {
				return nil, api.ErrFull
			}
			files = slices.Insert(files, i, api.File{Name: name})
		}
		if size(files[i])+len(s) > api.MaxFile {
			return nil, api.ErrLong
		}
		files[i].Tail += s
		return files, api.OK
	})
}

// Sync is the disk with all of a file safe.
func Sync(d api.Disk, name string) (api.Disk, api.Errno) {
	return step(d, func(files []api.File) ([]api.File, api.Errno) {
		i, found := find(files, name)
		if !found {
			return nil, api.ErrNone
		}
		files[i].Safe, files[i].Tail = content(files[i]), ""
		return files, api.OK
	})
}

// Rename is the disk with a file under another name; whatever had that is gone.
func Rename(d api.Disk, from, to string) (api.Disk, api.Errno) {
	return step(d, func(files []api.File) ([]api.File, api.Errno) {
		if !Named(to) {
			return nil, api.ErrForm
		}
		i, found := find(files, from)
		if !found {
			return nil, api.ErrNone
		}
		f := files[i]
		f.Name = to
		// The file is taken away before it is put to its new place, so that it isn't lost if both names are the same.
		files = slices.Delete(files, i, i+1)
		return put(files, f), api.OK
	})
}

// put is the files with one more, in the place of one of its name if there is such a one.
func put(files []api.File, f api.File) []api.File {
	i, found := find(files, f.Name)
	if !found {
		return slices.Insert(files, i, f)
	}
	files[i] = f
	return files
}

// Remove is the disk without a file.
func Remove(d api.Disk, name string) (api.Disk, api.Errno) {
	return step(d, func(files []api.File) ([]api.File, api.Errno) {
		i, found := find(files, name)
		if !found {
			return nil, api.ErrNone
		}
		return slices.Delete(files, i, i+1), api.OK
	})
}
