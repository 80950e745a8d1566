package whisper

import (
	"slices"

	"graticule/agg"
	"graticule/api"
	"graticule/fixed"
	"graticule/slot"
	"graticule/vfs"
	"graticule/whead"
)

const longestHead = 16 + 12*api.MaxArch // bytes

// file is a file for as long as a call works on it. Its size is that of its header:
// all slots lie within it, so that no read and no write of one fails.
type file struct {
	api.Header
	disk *vfs.FS
	name string
}

func open(f *vfs.FS, name string) (file, api.Errno) {
	if f == nil {
		return file{}, api.ErrArg
	}
	size, err := f.Size(name)
	if err != api.OK {
		return file{}, err
	}
	// A file of another kind may be long: no more of it is read than a header has.
	head, err := f.Read(name, 0, min(size, longestHead))
	if err != api.OK {
		return file{}, err
	}
	h, err := whead.Decode(head)
	if err != api.OK || whead.Size(h) != size {
		return file{}, api.ErrForm
	}
	return file{Header: h, disk: f, name: name}, api.OK
}

func (f file) ring(i int) ring {
	return ring{Archive: f.Archives[i], of: f, offset: whead.Offset(f.Header, i)}
}

// reaching is the first archive that keeps so many seconds; there must be one.
func (f file) reaching(seconds int) int {
	return slices.IndexFunc(f.Archives, func(a api.Archive) bool { return span(a) >= seconds })
}

// covering is the first archive that covers the time, or -1; at is positive.
func (f file) covering(now, at int) int {
	return slices.IndexFunc(f.Archives, func(a api.Archive) bool { return at <= now && now-at < span(a) })
}

// store lays a point, and what follows from it in the archives behind; it tells
// whether the point was laid.
func (f file) store(now int, p api.Point) bool {
	if p.At < 1 || !fixed.Of(p.N).Ok {
		return false
	}
	i := f.covering(now, p.At)
	if i < 0 || !f.ring(i).write(p) {
		return false
	}
	for i++; i < len(f.Archives); i++ {
		v := f.together(i, p.At)
		if !v.Ok || !f.ring(i).write(api.Point{At: p.At, N: v.N}) {
			break
		}
	}
	return true
}

// together is what the archive ahead of archive i has for the step of archive i
// in which the time lies.
func (f file) together(i, at int) api.Val {
	fine, coarse := f.ring(i-1), f.ring(i)
	start := slot.Align(at, coarse.Step)
	return agg.Put(f.Agg, f.XFF, fine.values(start, coarse.Step/fine.Step)...)
}

// span is how many seconds an archive keeps.
func span(a api.Archive) int { return a.Step * a.Count }
