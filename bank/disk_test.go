package bank_test

import (
	"math"
	"math/rand"
	"strings"
	"testing"

	"corrody/api"
	"corrody/bank"
)

// P9.1: a disk has from 1 to 1,000,000 bytes.
func TestNewDisk(t *testing.T) {
	for _, size := range []int{0, -1, 1000001, 1 << 32, math.MinInt, math.MaxInt} {
		if d, e := bank.NewDisk(size); d != nil || e != api.ErrArg {
			t.Error(size, d, e)
		}
	}
	for _, size := range []int{1, 2, 999999, 1000000} {
		d := newDisk(t, size)
		same(t, read(t, d), "")
		is(t, d.Append(make([]byte, size+1)), api.ErrFull)
		is(t, d.Append(make([]byte, size)), api.OK)
		is(t, d.Append(make([]byte, 1)), api.ErrFull)
		is(t, d.Append(nil), api.OK)
	}
}

// P9.1: what is appended is there, but safe only after Sync or Cut.
func TestCrash(t *testing.T) {
	for keep, want := range map[int]string{math.MinInt: "ab", -1: "ab", 0: "ab", 1: "abc", 3: "abcde", 4: "abcde", math.MaxInt: "abcde"} {
		d := newDisk(t, 9)
		is(t, d.Append([]byte("ab")), api.OK)
		is(t, d.Sync(), api.OK)
		is(t, d.Append([]byte("c")), api.OK)
		is(t, d.Append([]byte("de")), api.OK)
		same(t, read(t, d), "abcde")
		d.Crash(keep)
		same(t, read(t, d), want)
		// What remains is safe.
		d.Crash(0)
		same(t, read(t, d), want)
	}
	d := newDisk(t, 9)
	is(t, d.Append([]byte("abcd")), api.OK)
	is(t, d.Cut(2), api.OK)
	same(t, read(t, d), "ab")
	is(t, d.Append([]byte("xyz")), api.OK)
	d.Crash(0)
	same(t, read(t, d), "ab")
	// What was safe and is cut off is gone.
	is(t, d.Cut(1), api.OK)
	d.Crash(9)
	same(t, read(t, d), "a")
}

// P9.1: Cut takes from none to all of the bytes.
func TestCut(t *testing.T) {
	d := newDisk(t, 9)
	is(t, d.Append([]byte("abc")), api.OK)
	for _, n := range []int{-1, 4, 9, math.MinInt, math.MaxInt} {
		is(t, d.Cut(n), api.ErrArg)
	}
	for _, n := range []int{3, 2, 2, 0, 0} {
		is(t, d.Cut(n), api.OK)
		same(t, read(t, d), "abc"[:n])
	}
	is(t, d.Cut(1), api.ErrArg)
}

// P9.1: k more operations are done before the power goes off.
func TestFuse(t *testing.T) {
	for k := range 5 {
		d := newDisk(t, 9)
		d.Fuse(k)
		for at := range 7 {
			want := api.OK
			if at >= k {
				want = api.ErrPower
			}
			is(t, d.Append([]byte("x")), want)
			// These are no operations, as they have another error.
			is(t, d.Append(make([]byte, 10)), api.ErrFull)
			is(t, d.Cut(-1), api.ErrArg)
			if _, e := d.Read(); e != want {
				t.Fatal(k, at, e)
			}
		}
		is(t, d.Sync(), api.ErrPower)
		is(t, d.Cut(0), api.ErrPower)
		is(t, d.Append(nil), api.ErrPower)
		d.Crash(9)
		same(t, read(t, d), strings.Repeat("x", k))
		is(t, d.Sync(), api.OK)
	}
}

// P9.1: each of the operations burns the fuse, Read does not, and a new fuse takes the place of the one before.
func TestOperations(t *testing.T) {
	d := newDisk(t, 9)
	d.Fuse(4)
	is(t, d.Append([]byte("abc")), api.OK)
	is(t, d.Sync(), api.OK)
	is(t, d.Cut(2), api.OK)
	is(t, d.Append(nil), api.OK)
	same(t, read(t, d), "ab")
	// The power is still on, so that the fuse can be taken out.
	d.Fuse(-5)
	for range 10 {
		is(t, d.Sync(), api.OK)
	}
	d.Fuse(0)
	d.Fuse(1)
	is(t, d.Sync(), api.OK)
	is(t, d.Sync(), api.ErrPower)
	// With the power off a fuse does nothing, also later.
	d.Fuse(-1)
	is(t, d.Sync(), api.ErrPower)
	d.Fuse(3)
	if b, e := d.Read(); b != nil || e != api.ErrPower {
		t.Error(b, e)
	}
	d.Crash(0)
	for range 10 {
		is(t, d.Sync(), api.OK)
	}
	// Crash takes out a fuse that did not burn.
	d.Fuse(2)
	d.Crash(0)
	for range 10 {
		is(t, d.Sync(), api.OK)
	}
}

// P9.1: an operation that the power loss stops is not done.
func TestStopped(t *testing.T) {
	stop := func(operation func(d *bank.Disk) api.Errno) string {
		d := newDisk(t, 9)
		is(t, d.Append([]byte("ab")), api.OK)
		is(t, d.Sync(), api.OK)
		is(t, d.Append([]byte("cd")), api.OK)
		d.Fuse(0)
		is(t, operation(d), api.ErrPower)
		d.Crash(1)
		return read(t, d)
	}
	same(t, stop(func(d *bank.Disk) api.Errno { return d.Append([]byte("x")) }), "abc")
	same(t, stop(func(d *bank.Disk) api.Errno { return d.Sync() }), "abc")
	same(t, stop(func(d *bank.Disk) api.Errno { return d.Cut(1) }), "abc")
}

// flat is a disk by the definition, written a second time.
type flat struct {
	safe, loose string
	off         bool
	fuse        int
}

// burns reports whether an operation is stopped.
func (f *flat) burns() bool {
	if f.off {
		return true
	}
	f.off = f.fuse == 0
	f.fuse--
	return f.off
}

// step does something at random with both disks.
func (f *flat) step(t *testing.T, r *rand.Rand, d *bank.Disk, size int) {
	all := f.safe + f.loose
	want := api.OK
	switch r.Intn(12) {
	case 0, 1, 2, 3, 4:
		text := strings.Repeat(string(rune('a'+r.Intn(26))), r.Intn(5))
		if len(all)+len(text) > size {
			want = api.ErrFull
		} else if f.burns() {
			want = api.ErrPower
		} else {
			f.loose += text
		}
		is(t, d.Append([]byte(text)), want)
	case 5, 6:
		if f.burns() {
			want = api.ErrPower
		} else {
			f.safe, f.loose = all, ""
		}
		is(t, d.Sync(), want)
	case 7:
		n := r.Intn(size+4) - 2
		if n < 0 || n > len(all) {
			want = api.ErrArg
		} else if f.burns() {
			want = api.ErrPower
		} else {
			f.safe, f.loose = all[:n], ""
		}
		is(t, d.Cut(n), want)
	case 8:
		k := r.Intn(8) - 2
		if !f.off {
			f.fuse = k
		}
		d.Fuse(k)
	case 9:
		keep := r.Intn(8) - 2
		f.safe, f.loose = f.safe+f.loose[:max(0, min(keep, len(f.loose)))], ""
		f.off, f.fuse = false, -1
		d.Crash(keep)
	}
}

// P9.1: whatever is done, a disk is as the definition has it.
func TestDiskByDefinition(t *testing.T) {
	r := rand.New(rand.NewSource(1))
	off := 0
	for range 500 {
		size := 1 + r.Intn(30)
		d, f := newDisk(t, size), &flat{fuse: -1}
		for range 100 {
			f.step(t, r, d, size)
			if f.off {
				off++
				if b, e := d.Read(); len(b) != 0 || e != api.ErrPower {
					t.Fatal(b, e)
				}
				continue
			}
			same(t, read(t, d), f.safe+f.loose)
		}
	}
	if off < 5000 || off > 45000 {
		t.Error("too few of a kind", off)
	}
}

// Rule 5: no disk, or one that NewDisk did not make, has ErrNil, and no effect.
func TestNoDisk(t *testing.T) {
	made := newDisk(t, 9)
	is(t, made.Append([]byte("ab")), api.OK)
	copied := *made
	for _, d := range []*bank.Disk{nil, {}, new(bank.Disk), &copied} {
		is(t, d.Append(nil), api.ErrNil)
		is(t, d.Append(make([]byte, 10)), api.ErrNil)
		is(t, d.Sync(), api.ErrNil)
		is(t, d.Cut(0), api.ErrNil)
		is(t, d.Cut(-1), api.ErrNil)
		d.Fuse(0)
		d.Crash(0)
		if b, e := d.Read(); len(b) != 0 || e != api.ErrNil {
			t.Error(b, e)
		}
		if b, e := bank.Open(d, row()); b != nil || e != api.ErrNil {
			t.Error(b, e)
		}
	}
	is(t, made.Append([]byte("c")), api.OK)
	same(t, read(t, made), "abc")
}
