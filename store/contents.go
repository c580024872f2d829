package store

import (
	"hanaper/api"
	"hanaper/digest"
	"hanaper/varint"
)

// The kinds of frames, by their first byte.
const (
	blockKind = 66
	markKind  = 77
)

const epochBytes = 8

type block struct{ bytes string }

// contents are what the frames of a journal come to.
type contents struct {
	blocks map[api.Hash]block
	names  []api.Hash // of the blocks, in order
	epoch  uint64
	marked bool // whether there is an epoch: 0 is one, too
}

func noBlocks(epoch uint64) contents {
	c := contentsOf(nil)
	c.mark(epoch)
	return c
}

func contentsOf(frames []string) contents {
	c := contents{blocks: map[api.Hash]block{}}
	for _, frame := range frames {
		c.read(frame)
	}
	return c
}

// read takes in what a frame says; a frame that is neither a block nor a mark says nothing.
func (c *contents) read(frame string) {
	if frame == "" {
		return
	}
	kind, behind := frame[0], frame[1:]
	switch kind {
	case blockKind:
		c.add(digest.Sum(behind), behind)
	case markKind:
		epoch, more, e := varint.Fixed(behind, epochBytes)
		if e == api.OK && more == "" {
			c.mark(epoch)
		}
	}
}

// add puts a block behind the others; one that is there stays where it is.
func (c *contents) add(name api.Hash, b string) {
	if c.has(name) {
		return
	}
	c.blocks[name] = block{bytes: b}
	c.names = append(c.names, name)
}

func (c *contents) mark(epoch uint64) {
	c.epoch, c.marked = epoch, true
}

func (c *contents) has(name api.Hash) bool {
	_, is := c.blocks[name]
	return is
}

// only is the blocks that are wanted, in the same order, without an epoch.
func (c *contents) only(wanted func(api.Hash) bool) contents {
	kept := contentsOf(nil)
	for _, name := range c.names {
		if wanted(name) {
			kept.add(name, c.blocks[name].bytes)
		}
	}
	return kept
}

// frames are those that come to c. The mark is the last one: a journal that is cut off has no epoch.
func (c *contents) frames() []string {
	var l []string
	for _, name := range c.names {
		l = append(l, blockFrame(c.blocks[name].bytes))
	}
	return append(l, markFrame(c.epoch))
}

func blockFrame(b string) string {
	return string([]byte{blockKind}) + b
}

func markFrame(epoch uint64) string {
	return string([]byte{markKind}) + varint.Big(epoch, epochBytes)
}
