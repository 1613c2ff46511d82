package disk_test

import (
	"fmt"
	"testing"

	"mantle/api"
	"mantle/disk"
	"mantle/memory"
)

func Example() {
	h, _ := memory.New(nil, 15)
	d, e := disk.Format(h, 4)
	fmt.Println(d.Left(), e)
	k, e := d.Take()
	fmt.Println(k, d.Left(), e)
	fmt.Println(d.Write(k, []byte("abc")))
	again, e := disk.Open(h)
	b, _ := again.Read(k)
	fmt.Printf("%q %d %v\n", b[:5], len(b), e)
	fmt.Println(again.Free(k), d.Left())
	_, e = d.Read(k)
	fmt.Println(e)
	// Output:
	// 2 error 0
	// 2 1 error 0
	// error 0
	// "abc\x00\x00" 64 error 0
	// error 0 2
	// error 192
}

// The chapter's table of examples, row by row.
func TestExamples(t *testing.T) {
	s := spyOf(t, nil)
	h := s.handle(15)
	wantNoFormat(t, nil, 4, api.ErrNil)
	wantNoFormat(t, h, 1, api.ErrArg)
	wantNoFormat(t, h, 2, api.ErrArg)
	wantNoFormat(t, h, 1025, api.ErrArg)
	wantNoFormat(t, s.handle(0), 4, api.ErrCan)

	d := formatted(t, h, 4)
	if b := s.bytes(t); string(b[:6]) != "\x4d\x44\x53\x4b\x00\x04" || b[64] != 3 {
		t.Errorf("the file has %x", b)
	}
	wantLeft(t, d, 2)

	wantTake(t, d, 2, api.OK)
	wantTake(t, d, 3, api.OK)
	wantTake(t, d, 0, api.ErrSpace)
	wantLeft(t, d, 0)

	wantE(t, d.Write(2, []byte{1, 2}), api.OK)
	wantRead(t, d, 2, padded([]byte{1, 2}))
	wantNoRead(t, d, 1, api.ErrArg)
	wantE(t, d.Write(2, make([]byte, 65)), api.ErrLong)

	wantE(t, d.Free(2), api.OK)
	wantE(t, d.Free(2), api.ErrNone)
	wantNoRead(t, d, 2, api.ErrNone)
	wantTake(t, d, 2, api.OK)
	wantRead(t, d, 2, make([]byte, 64))

	wantLeft(t, opened(t, h), 0)
	other := s.bytes(t)
	other[5]++
	wantNoDisk(t, newFile(t, other, 15), api.ErrDisk)
}
