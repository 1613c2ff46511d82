package disk_test

import (
	"bytes"
	"testing"

	"mantle/api"
	"mantle/disk"
	"mantle/face"
	"mantle/window"
)

// book is P21.6 in its own words: which data blocks are taken, and what was written to them, by the answers alone.
type book struct {
	n    int
	held map[int][]byte
}

// lowest is the lowest data block that is free; n, if there is none.
func (b book) lowest() int {
	k := mapBlocks(b.n) + 1
	for k < b.n && b.held[k] != nil {
		k++
	}
	return k
}

// want holds what a call has told against the book, and writes it down there; refused says that the file refuses something.
func (b book) want(t *testing.T, a act, x told, refused bool) {
	t.Helper()
	_, held := b.held[a.block]
	switch {
	case a.do == doTake && x.e == api.OK:
		if x.n != b.lowest() || x.n >= b.n {
			t.Fatalf("of %d blocks %d is taken, want %d", b.n, x.n, b.lowest())
		}
		b.held[x.n] = make([]byte, 64)
	case a.do == doTake && x.e == api.ErrSpace && b.lowest() < b.n:
		t.Fatalf("no block of %d is free, but %d is", b.n, b.lowest())
	case a.do == doLeft && !refused && x.n+len(b.held) != b.n-1-mapBlocks(b.n):
		t.Fatalf("%d blocks: %d are left, %d taken", b.n, x.n, len(b.held))
	case a.do == doRead && x.e == api.OK && (!held || x.b != string(b.held[a.block])):
		t.Fatalf("%s tells %x, want %x", a.text(), x.b, b.held[a.block])
	case a.do == doWrite && x.e == api.OK:
		if !held {
			t.Fatalf("%s to a free block", a.text())
		}
		b.held[a.block] = padded(a.b)
	case a.do == doFree && x.e == api.OK:
		if !held {
			t.Fatalf("%s, which was free", a.text())
		}
		delete(b.held, a.block)
	case x.e == api.ErrNone && held && !refused:
		t.Fatalf("%s, which is taken: %v", a.text(), x.e)
	}
}

// wantAll holds of a disk that it tells what the book says of each block.
func (b book) wantAll(t *testing.T, d *disk.Disk) {
	t.Helper()
	for k := -1; k < b.n+2; k++ {
		switch {
		case k <= mapBlocks(b.n) || k >= b.n:
			wantNoRead(t, d, k, api.ErrArg)
		case b.held[k] != nil:
			wantRead(t, d, k, b.held[k])
		default:
			wantNoRead(t, d, k, api.ErrNone)
		}
	}
	wantLeft(t, d, b.n-1-mapBlocks(b.n)-len(b.held))
}

// rules are those of a file that now and then refuses something.
func (c *chance) rules(n int) (r rules) {
	e := []api.Errno{api.ErrSum, api.ErrNone, api.ErrDisk, api.ErrQuota}[c.below(4)]
	switch c.below(12) {
	case 0:
		r = refusals(e, 0, api.OK)
	case 1:
		from := int64(c.below(64 * n))
		r = rules{bad: api.Stretch{From: from, To: from + int64(c.below(100))}, noRead: e}
	case 2:
		r.noWrite, r.skip = e, c.below(2)
	case 3:
		r.noSync = e
	}
	return r
}

// crowd is several disks over one file, the same on paper, and a book of what they told.
type crowd struct {
	*both
	disks []*disk.Disk
	book  book
}

// crowdOf is a new disk of n blocks.
func crowdOf(t *testing.T, n int) *crowd {
	t.Helper()
	s := spyOf(t, nil)
	d := formatted(t, s.handle(15), n)
	s.forget()
	return &crowd{&both{s, d, page{&sheet{data: bytesOf(n), can: 15}, n}}, []*disk.Disk{d}, book{n, map[int][]byte{}}}
}

// join opens one disk more over the file.
func (x *crowd) join(t *testing.T) {
	t.Helper()
	x.refuse(rules{})
	x.disks = append(x.disks, opened(t, x.spy.handle(15)))
}

// step does something by one of the disks.
func (x *crowd) step(t *testing.T, c *chance) {
	t.Helper()
	x.both.disk = x.disks[c.below(len(x.disks))]
	r := c.rules(x.page.n)
	x.refuse(r)
	a := c.act(x.page.n)
	x.book.want(t, a, x.want(t, a), r != rules{})
	x.refuse(rules{})
}

// Any calls in any order, by several disks over one file: each tells what the chapter's words tell on paper, and what P21.6 promises.
func TestP216(t *testing.T) {
	c := chance(216)
	for range 300 {
		x := crowdOf(t, c.many())
		for range 300 {
			if c.below(50) == 0 {
				x.join(t)
			}
			x.step(t, &c)
		}
		for _, d := range x.disks {
			x.book.wantAll(t, d)
		}
		x.wantBytes(t)
	}
}

// Behind each call, whatever it was and whatever was refused, the file is a disk that tells the same (P21.7).
func TestP217(t *testing.T) {
	c := chance(217)
	for range 100 {
		x := crowdOf(t, 3+c.below(12))
		x.join(t)
		for range 100 {
			x.step(t, &c)
			b := x.spy.bytes(t)
			if n, is := isDisk(b); !is || n != x.page.n {
				t.Fatalf("the file is a disk: %v, of %d blocks, want %d", is, n, x.page.n)
			}
			for _, d := range append(x.disks, opened(t, x.spy.handle(15)), opened(t, newFile(t, b, 0))) {
				x.book.wantAll(t, d)
			}
		}
	}
}

// Great disks that are filled, emptied at random and filled again, by two disks in turn.
func TestP216Great(t *testing.T) {
	c := chance(1216)
	for _, n := range []int{511, 512, 513, 514, 1023, 1024} {
		x := crowdOf(t, n)
		x.join(t)
		for range 3 {
			for left := x.disks[0].Left(); left >= 0; left-- {
				x.both.disk = x.disks[left%2]
				got := x.want(t, act{do: doTake})
				x.book.want(t, act{do: doTake}, got, false)
				if got.e == api.OK {
					w := act{do: doWrite, block: got.n, b: c.text(c.below(65))}
					x.book.want(t, w, x.want(t, w), false)
				}
			}
			wantTake(t, x.disks[0], 0, api.ErrSpace)
			for k := range n {
				if c.below(3) > 0 {
					x.both.disk = x.disks[k%2]
					a := act{do: doFree, block: k}
					x.book.want(t, a, x.want(t, a), false)
				}
			}
			for _, d := range append(x.disks, opened(t, x.spy.handle(0))) {
				x.book.wantAll(t, d)
			}
		}
		x.wantBytes(t)
	}
}

// Two disks over one file by unlike handles: what one does the other tells, and neither can more than its own handle.
func TestP217Two(t *testing.T) {
	all := newFile(t, nil, 15)
	d := formatted(t, all, 6)
	r := opened(t, all.Only(0))
	wantTake(t, d, 2, api.OK)
	wantE(t, d.Write(2, []byte("abc")), api.OK)
	wantRead(t, r, 2, padded([]byte("abc")))
	wantLeft(t, r, 3)
	wantTake(t, r, 0, api.ErrCan)
	wantE(t, r.Write(2, nil), api.ErrCan)
	wantE(t, r.Free(2), api.ErrCan)
	wantE(t, r.Sync(), api.ErrCan)
	wantE(t, d.Free(2), api.OK)
	wantNoRead(t, r, 2, api.ErrNone)
	wantLeft(t, r, 4)
}

// Two disks in two parts of one file do not touch each other, nor what lies around them.
func TestP217Windows(t *testing.T) {
	s := spyOf(t, letters(2000))
	part := func(from, n int64) *face.Handle {
		h, e := window.New(s.handle(15), from, n)
		if e != api.OK {
			t.Fatal(e)
		}
		return h
	}
	one, two := formatted(t, part(10, 64*5), 5), formatted(t, part(1000, 64*9), 9)
	wantNoFormat(t, part(10, 64*5), 6, api.ErrLong)
	for k := 2; k < 5; k++ {
		wantTake(t, one, k, api.OK)
		wantE(t, one.Write(k, letters(k)), api.OK)
	}
	wantLeft(t, two, 7)
	wantTake(t, two, 2, api.OK)
	for k := 2; k < 5; k++ {
		wantRead(t, one, k, padded(letters(k)))
		wantRead(t, opened(t, part(10, 64*5)), k, padded(letters(k)))
	}
	wantNoDisk(t, part(10, 64*5-1), api.ErrDisk)
	wantNoDisk(t, part(11, 64*5), api.ErrDisk)
	b := s.bytes(t)
	for _, x := range []struct{ from, to int }{{0, 10}, {10 + 64*5, 1000}, {1000 + 64*9, 2000}} {
		if !bytes.Equal(b[x.from:x.to], letters(2000)[x.from:x.to]) {
			t.Errorf("something was written from %d to %d", x.from, x.to)
		}
	}
}
