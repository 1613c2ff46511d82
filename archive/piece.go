package archive

import (
	"bytes"

	"mantle/api"
	"mantle/sums"
)

// state is the part of an archive in which the next byte lies.
type state int8

const (
	inMark state = iota
	inKind
	inPathLong
	inPath
	inDataLong
	inData
	inItemSum
	inCount
	inEndSum
	behind // the end
	torn
)

// piece is what comes by one Feed.
type piece struct {
	*Reader
	left  []byte     // what was not read yet
	part  []byte     // the part that got whole last
	whole []api.Item // the items that did
}

// read goes from state to state until nothing is left of the piece. The next piece goes on in the state in which this one ends.
func (p *piece) read() {
	switch p.state {
	case inKind:
		goto kind
	case inPathLong, inPath, inDataLong, inData, inItemSum:
		goto item
	case inCount:
		goto count
	case inEndSum:
		goto endSum
	case behind:
		goto behind
	}
mark:
	if !p.brings(inMark, 1) {
		return
	}
	p.must(p.part[0] == mark[p.from-1])
	if p.from < len(mark) {
		goto mark
	}
	p.settle()
kind:
	if !p.brings(inKind, 1) {
		return
	}
	if p.part[0] == endSign {
		goto count
	}
	p.item.Kind = int8(p.part[0])
	p.must(isKind(p.item.Kind) && p.count < api.MaxNodes)
	p.state = inPathLong
item:
	if !p.readItem() {
		return
	}
	p.tell()
	goto kind
count:
	if !p.brings(inCount, countLong) {
		return
	}
	p.must(number(p.part) == uint64(p.count))
endSum:
	if !p.brings(inEndSum, sumLong) {
		return
	}
	p.must(number(p.part) == onward(p.sum, p.held[:p.from-sumLong]))
	p.settle()
	p.state = behind
behind:
	p.must(len(p.left) == 0)
}

// readItem does the same with the parts of an item behind its kind, and tells whether the item is whole.
func (p *piece) readItem() bool {
	switch p.state {
	case inPath:
		goto path
	case inDataLong:
		goto dataLong
	case inData:
		goto data
	case inItemSum:
		goto sum
	}
	if !p.brings(inPathLong, 2*pathLong) {
		return false
	}
	p.must(p.long(pathLong) >= 1 && p.long(pathLong) <= api.MaxPath)
path:
	if !p.brings(inPath, p.long(pathLong)) {
		return false
	}
	p.item.Path = string(p.part)
	p.must(standsBehind(p.item.Path, p.ahead))
dataLong:
	if !p.brings(inDataLong, 2*dataLong) {
		return false
	}
	p.must(p.long(dataLong) >= 0 && p.long(dataLong) <= mostData(p.item.Kind))
data:
	if !p.brings(inData, p.long(dataLong)) {
		return false
	}
	p.item.Data = bytes.Clone(p.part)
sum:
	if !p.brings(inItemSum, sumLong) {
		return false
	}
	p.must(number(p.part) == sums.Sum(p.held[:p.from-sumLong]))
	return true
}

// brings holds what the piece has of a part of n bytes, and tells whether that is whole by now. If not, the reader waits in the part's state for more.
func (p *piece) brings(in state, n int) bool {
	k := min(p.from+n-len(p.held), len(p.left))
	p.held = append(p.held, p.left[:k]...)
	p.left = p.left[k:]
	if len(p.held) < p.from+n {
		p.state = in
		return false
	}
	p.part = p.held[p.from:]
	p.from += n
	return true
}

// long is the length that was told, each time in n bytes, just ahead of the part that comes next, or -1.
func (p *piece) long(n int) int { return twice(p.held[p.from-2*n : p.from]) }

// must gives up if a byte cannot stand where it stands.
func (p *piece) must(stand bool) {
	if !stand {
		panic(api.ErrTar)
	}
}

// tell lets go an item that is whole.
func (p *piece) tell() {
	p.whole = append(p.whole, p.item)
	p.count++
	p.ahead = p.item.Path
	p.item = api.Item{}
	p.settle()
}

// settle lets go what is held, since it is whole.
func (p *piece) settle() {
	p.sum = onward(p.sum, p.held)
	p.held, p.from = nil, 0
}
