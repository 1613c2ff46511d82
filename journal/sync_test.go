package journal_test

import (
	"testing"

	"mantle/api"
	"mantle/face"
)

// Without records it is data's Sync alone, where it can; its error is told.
func TestP134NoRecords(t *testing.T) {
	for a := range uint8(16) {
		for b := range uint8(16) {
			if keeps(a, b) == 0 {
				continue
			}
			w, h := watched(t, "abcdef", a, b)
			var want []string
			if a&api.CanSync != 0 {
				want = append(want, synced("data"))
				w.refuse(0, api.ErrFull)
				wantSync(t, h, api.ErrFull)
				w.wantCalls(t, want...)
			}
			wantSync(t, h, api.OK)
			w.wantCalls(t, want...)
			wantWrite(t, h, 0, "x", api.OK)
			wantSync(t, h, api.OK)
			w.forget()
			wantSync(t, h, api.OK) // none is left
			w.wantCalls(t, want...)
		}
	}
}

// A Sync without records that data refuses spoils nothing: it went through no steps.
func TestP134NoRecordsRefused(t *testing.T) {
	for _, e := range errnos() {
		w, h := watched(t, "abcdef", 15, 15)
		w.refuse(0, e)
		wantSync(t, h, e)
		w.wantCalls(t, synced("data"))
		wantAll(t, h, "abcdef")
		wantWrite(t, h, 0, "x", api.OK)
		wantCut(t, h, 2, api.OK)
		wantSync(t, h, api.OK)
		wantAll(t, w.data.all, "xb")
	}
}

// stepsOf are the calls of a Sync of these records, over files that can so much.
func stepsOf(a, b uint8, records []api.Op) (l []string) {
	long := 0
	for _, r := range records {
		long += len(bytesOf(r))
	}
	if b&api.CanSync != 0 {
		l = append(l, synced("log"))
	}
	l = append(l, wrote("log", 0, markOf(uint64(long))))
	if b&api.CanSync != 0 {
		l = append(l, synced("log"))
	}
	last, _ := lastStepsOf(a, b, records)
	return append(l, last...)
}

// lastStepsOf are the calls of the steps 4 to 7, up to the first one that a file can't, and the answer.
func lastStepsOf(a, b uint8, records []api.Op) (l []string, e api.Errno) {
	for _, r := range records {
		if cannot(a, r) != api.OK {
			return l, api.ErrCan
		}
		l = append(l, call("data", r))
	}
	if a&api.CanSync != 0 {
		l = append(l, synced("data"))
	}
	if b&api.CanCut == 0 {
		return l, api.ErrCan
	}
	l = append(l, wasCut("log", 0))
	if b&api.CanSync != 0 {
		l = append(l, synced("log"))
	}
	return l, api.OK
}

// scripts are records of all kinds: one, and many.
func scripts() [][]api.Op {
	return [][]api.Op{
		{write(1, "xy")},
		{cut(4)},
		{cut(9)},
		{write(8, "uvw")},
		{write(1, "xy"), cut(4)},
		{write(1, "xy"), write(2, "zu"), cut(4), cut(2), write(4, "x"), cut(8), write(0, "qrstuvw")},
		{write(0, letters(300)), cut(0), write(3, "x")},
	}
}

// withoutCuts are those of the records that a journal over data of this set can have.
func withoutCuts(can uint8, records []api.Op) (l []api.Op) {
	for _, r := range records {
		if r.Do == api.DoWrite || can&api.CanCut != 0 {
			l = append(l, r)
		}
	}
	return l
}

// The seven steps, in their order, each by its one call, over files of all sets; a file that can't sync is passed over.
func TestP134Steps(t *testing.T) {
	for a := range uint8(16) {
		for b := range uint8(16) {
			for _, records := range scripts() {
				if records = withoutCuts(a, records); keeps(a, b) == 0 || len(records) == 0 {
					continue
				}
				w, h := watched(t, "abcdef", a, b)
				plain := newFile(t, "abcdef", 15)
				for range 3 { // it goes on behind a Sync
					for _, r := range records {
						wantTold(t, h, r, plain.Do(r))
					}
					text := string(plain.Do(api.Op{Do: api.DoRead, N: 999}).Data)
					wantAll(t, h, text)
					w.forget()
					wantSync(t, h, api.OK)
					w.wantCalls(t, stepsOf(a, b, records)...)
					wantAll(t, h, text)
					wantAll(t, w.data.all, text)
					wantSize(t, w.log.all, 0)
				}
			}
		}
	}
}

// wantSpoilt holds that a journal is spoilt, and reads so.
func wantSpoilt(t *testing.T, w *two, h *face.Handle, text string) {
	t.Helper()
	w.forget()
	for range 2 {
		wantReads(t, h, text)
		wantWrite(t, h, 0, "z", api.ErrGone)
		wantWrite(t, h, 100, "zz", api.ErrGone)
		wantWrite(t, h, 0, "", api.OK)
		wantWrite(t, h, -1, "z", api.ErrArg)
		wantWrite(t, h, api.MaxSize, "z", api.ErrLong)
		wantCut(t, h, 0, api.ErrGone)
		wantCut(t, h, 100, api.ErrGone)
		wantCut(t, h, -1, api.ErrArg)
		wantCut(t, h, api.MaxSize+1, api.ErrLong)
		wantSync(t, h, api.ErrGone)
		w.wantCalls(t)
	}
	wantReads(t, h, text)
}

// A refusal at every single call of a Sync: the error is told, the rest is not done, and the journal is spoilt: it is read as ahead.
func TestP134Refused(t *testing.T) {
	for i, records := range scripts()[:6] {
		steps := stepsOf(15, 15, records)
		for k := range steps {
			for _, e := range errnos() {
				w, h := watched(t, "abcdef", 15, 15)
				plain := newFile(t, "abcdef", 15)
				for _, r := range records {
					wantTold(t, h, r, plain.Do(r))
				}
				text := string(plain.Do(api.Op{Do: api.DoRead, N: 99}).Data)
				w.forget()
				w.refuse(k, e)
				wantSync(t, h, e)
				w.wantCalls(t, steps[:k+1]...)
				below, log := allOf(w.below), allOf(w.logs)
				wantSpoilt(t, w, h, text)
				wantAll(t, w.data.all, string(below))
				if wantAll(t, w.log.all, string(log)); t.Failed() {
					t.Fatalf("script %d, call %d, %v", i, k, e)
				}
			}
		}
	}
}

// The same, for a second Sync: what the first one did stays.
func TestP134RefusedLater(t *testing.T) {
	first, second := scripts()[5], scripts()[4]
	steps := stepsOf(15, 15, second)
	for k := range steps {
		w, h := watched(t, "abcdef", 15, 15)
		plain := newFile(t, "abcdef", 15)
		for _, r := range first {
			wantTold(t, h, r, plain.Do(r))
		}
		wantSync(t, h, api.OK)
		for _, r := range second {
			wantTold(t, h, r, plain.Do(r))
		}
		w.forget()
		w.refuse(k, api.ErrFull)
		wantSync(t, h, api.ErrFull)
		w.wantCalls(t, steps[:k+1]...)
		wantSpoilt(t, w, h, string(plain.Do(api.Op{Do: api.DoRead, N: 99}).Data))
	}
}

// Files whose Sync answers ErrCan can sync: that is an error like any other one.
func TestP134ErrCan(t *testing.T) {
	w, h := watched(t, "abcdef", 15, 15)
	w.refuse(0, api.ErrCan)
	wantSync(t, h, api.ErrCan)
	w.wantCalls(t, synced("data"))
	spoil := []string{synced("log"), wrote("log", 0, markOf(13)), synced("log"), wasCut("data", 2), synced("data"), wasCut("log", 0), synced("log")}
	for k := range spoil {
		w, h := watched(t, "abcdef", 15, 15)
		wantCut(t, h, 2, api.OK)
		w.forget()
		w.refuse(k, api.ErrCan)
		wantSync(t, h, api.ErrCan)
		w.wantCalls(t, spoil[:k+1]...)
		wantSpoilt(t, w, h, "ab")
	}
}

// Data that has no room for what was journalled tells so at the Sync.
func TestP134DataIsFull(t *testing.T) {
	d := newFile(t, letters(100), 15)
	h := newJournal(t, d, newFile(t, "", 15))
	for i := range int64(api.MaxData / api.MaxText) {
		if i == 50 {
			wantSync(t, h, api.OK)
		}
		wantWrite(t, h, 100+i*api.MaxText, letters(api.MaxText), api.OK)
	}
	wantSize(t, h, api.MaxData+100)
	wantSync(t, h, api.ErrLong)
	wantSize(t, h, api.MaxData+100)
	wantSize(t, d, api.MaxData+100-api.MaxText)
	wantCut(t, h, 5, api.ErrGone)
	wantRead(t, h, api.MaxData, 100, letters(api.MaxText)[api.MaxText-100:])
}

// Each journal is spoilt by itself.
func TestP134OthersGoOn(t *testing.T) {
	w, h := watched(t, "abcdef", 15, 15)
	other := newJournal(t, w.data.handle(15), newFile(t, "", 15))
	wantWrite(t, other, 0, "x", api.OK)
	spoil(t, w, h)
	wantSync(t, h, api.ErrGone)
	wantSync(t, other, api.OK)
	wantAll(t, other, "xbcdef")
	wantAll(t, h, "xScdef")
	if less := h.Only(api.CanSync); less.Do(api.Op{Do: api.DoSync}).E != api.ErrGone {
		t.Error("a handle that can less is not spoilt with it")
	}
}
