package props

import (
	"sort"
	"sync"
	"sync/atomic"

	"selvedge/api"
)

const (
	blockSize  = 256
	blockCount = 0x110000 / blockSize
)

// block is the classes of characters that differ in their last byte alone.
type block [blockSize]api.Class

// lookup tells a class in two stages: which block a character stands in, and what stands there.
type lookup struct {
	which  [blockCount]uint8
	blocks []block
}

var (
	once    sync.Once
	builds  atomic.Int32 // how often the lookup was made: once, however many ask at the same time
	classes lookup
)

// Class tells a character's bidi class.
func Class(r rune) api.Class {
	spans := ranges()
	i := sort.Search(len(spans), func(i int) bool { return r <= spans[i].last })
	if i < len(spans) && spans[i].first <= r {
		return spans[i].class
	}
	return api.L
}

// LookUp tells what Class tells, in two stages.
func LookUp(r rune) api.Class {
	if r < 0 || r >= blockCount*blockSize {
		return api.L
	}
	once.Do(build)
	return classes.blocks[classes.which[r/blockSize]][r%blockSize]
}

// Builds tells how often the lookup was made. It asks for the lookup first, so that its answer does not hang on who else asks.
func Builds() int {
	once.Do(build)
	return int(builds.Load())
}

func build() {
	builds.Add(1)
	classes = newLookup(ranges())
}

func newLookup(spans [spanCount]span) lookup {
	l := lookup{blocks: []block{plain()}}
	for _, s := range spans {
		l.put(s)
	}
	return l
}

// plain is the block that all characters share about whose neighbours nothing is said.
func plain() block {
	var b block
	for i := range b {
		b[i] = api.L
	}
	return b
}

// put gives a block of its own to each 256 characters that the span touches first.
func (l *lookup) put(s span) {
	for r := s.first; r <= s.last; r++ {
		at := r / blockSize
		if l.which[at] == 0 {
			l.which[at] = uint8(len(l.blocks))
			l.blocks = append(l.blocks, plain())
		}
		l.blocks[l.which[at]][r%blockSize] = s.class
	}
}
