package disk

import (
	"maps"
	"slices"

	"cartulary/api"
)

// slow is a disk as the chapter tells it, with no order of its files: another way to what the steps come to. It is
// always valid.
type slow struct {
	files map[string]slowFile
	fuse  int
}

type slowFile struct{ safe, tail string }

func slowOf(d api.Disk) slow {
	m := slow{map[string]slowFile{}, d.Fuse}
	for _, f := range d.Files {
		m.files[f.Name] = slowFile{f.Safe, f.Tail}
	}
	return m
}

func (m slow) disk() api.Disk {
	d := api.Disk{Fuse: m.fuse}
	for _, name := range slices.Sorted(maps.Keys(m.files)) {
		d.Files = append(d.Files, api.File{Name: name, Safe: m.files[name].safe, Tail: m.files[name].tail})
	}
	return d
}

func (m slow) has(name string) bool {
	_, found := m.files[name]
	return found
}

// burn is behind a step that went well.
func (m *slow) burn() api.Errno {
	if m.fuse > 0 {
		m.fuse--
	}
	return api.OK
}

func (m *slow) write(name, s string) api.Errno {
	f := m.files[name]
	switch {
	case m.fuse == 0:
		return api.ErrPower
	case !Named(name):
		return api.ErrForm
	case !m.has(name) && len(m.files) == api.MaxFiles:
		return api.ErrFull
	case len(f.safe+f.tail+s) > api.MaxFile:
		return api.ErrLong
	}
	m.files[name] = slowFile{f.safe, f.tail + s}
	return m.burn()
}

func (m *slow) sync(name string) api.Errno {
	switch {
	case m.fuse == 0:
		return api.ErrPower
	case !m.has(name):
		return api.ErrNone
	}
	m.files[name] = slowFile{safe: m.files[name].safe + m.files[name].tail}
	return m.burn()
}

func (m *slow) rename(from, to string) api.Errno {
	switch {
	case m.fuse == 0:
		return api.ErrPower
	case !Named(to):
		return api.ErrForm
	case !m.has(from):
		return api.ErrNone
	}
	f := m.files[from]
	delete(m.files, from)
	m.files[to] = f
	return m.burn()
}

func (m *slow) remove(name string) api.Errno {
	switch {
	case m.fuse == 0:
		return api.ErrPower
	case !m.has(name):
		return api.ErrNone
	}
	delete(m.files, name)
	return m.burn()
}

func (m *slow) save(name, s string) api.Errno {
	if !Named(name) || !Named(name+".new") {
		return api.ErrForm
	}
	if m.has(name + ".new") {
		if bad := m.remove(name + ".new"); bad != api.OK {
			return bad
		}
	}
	if bad := m.write(name+".new", s); bad != api.OK {
		return bad
	}
	if bad := m.sync(name + ".new"); bad != api.OK {
		return bad
	}
	return m.rename(name+".new", name)
}

func (m *slow) crash(keep int) api.Errno {
	if keep < 0 {
		return api.ErrRange
	}
	for name, f := range m.files {
		m.files[name] = slowFile{safe: f.safe + f.tail[:min(keep, len(f.tail))]}
	}
	m.fuse = -1
	return api.OK
}
