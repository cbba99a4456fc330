package bank

import "corrody/api"

const (
	maxSize = 1000000
	noFuse  = -1
)

// Disk keeps bytes over power losses.
type Disk struct {
	self  *Disk // the disk itself, if NewDisk made it: a copy of a disk is none
	size  int
	bytes []byte
	safe  int // how many of the bytes, from the front, are safe
	fuse  int // how many more operations are done, or noFuse
	off   bool
}

// NewDisk returns an empty disk.
func NewDisk(size int) (*Disk, api.Errno) {
	if !within(size, 1, maxSize) {
		return nil, api.ErrArg
	}
	d := &Disk{size: size, fuse: noFuse}
	d.self = d
	return d, api.OK
}

// Append adds bytes.
func (d *Disk) Append(b []byte) api.Errno {
	if !d.made() {
		return api.ErrNil
	}
	if len(b) > d.room() {
		return api.ErrFull
	}
	return d.operate(func() { d.bytes = append(d.bytes, b...) })
}

// Sync makes all bytes safe.
func (d *Disk) Sync() api.Errno {
	if !d.made() {
		return api.ErrNil
	}
	return d.operate(func() { d.safe = len(d.bytes) })
}

// Cut keeps the first n bytes.
func (d *Disk) Cut(n int) api.Errno {
	if !d.made() {
		return api.ErrNil
	}
	if !within(n, 0, len(d.bytes)) {
		return api.ErrArg
	}
	return d.operate(func() { d.keep(n) })
}

// Read returns the bytes.
func (d *Disk) Read() ([]byte, api.Errno) {
	if !d.made() {
		return nil, api.ErrNil
	}
	if d.off {
		return nil, api.ErrPower
	}
	b := make([]byte, len(d.bytes))
	copy(b, d.bytes)
	return b, api.OK
}

// Fuse cuts the power after k more operations.
func (d *Disk) Fuse(k int) {
	if d.made() && !d.off {
		d.fuse = max(k, noFuse)
	}
}

// Crash keeps some of the bytes that are not safe, and turns the power on.
func (d *Disk) Crash(keep int) {
	if !d.made() {
		return
	}
	loose := len(d.bytes) - d.safe
	d.keep(d.safe + min(max(keep, 0), loose))
	d.off, d.fuse = false, noFuse
}

// made reports whether NewDisk made d.
func (d *Disk) made() bool {
	return d != nil && d.self == d
}

// room returns how many more bytes d has space for.
func (d *Disk) room() int {
	return d.size - len(d.bytes)
}

// operate does an operation, unless the power is off or goes off.
func (d *Disk) operate(operation func()) api.Errno {
	if d.fuse == 0 {
		d.off = true
	}
	if d.off {
		return api.ErrPower
	}
	if d.fuse > 0 {
		d.fuse--
	}
	operation()
	return api.OK
}

// keep leaves the first n bytes, all safe.
func (d *Disk) keep(n int) {
	d.bytes = front(d.bytes, n)
	d.safe = n
}
