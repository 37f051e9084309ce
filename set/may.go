package set

import (
	"stole/api"
	"stole/names"
	"stole/pipe"
)

// May tells whether templates are such as Read could tell.
func May(ns []api.Named) bool {
	there, err := setOf(len(ns), func(i int) string { return ns[i].Name })
	if err != api.OK {
		return false
	}
	for _, n := range ns {
		r := room{there: there, items: api.MaxPieces, bytes: api.MaxText}
		if !r.mayHold(n.Items, place{}) {
			return false
		}
	}
	return true
}

// room is what a template may still hold: so many items, so many bytes in its ItemTexts, calls of the templates that there are.
type room struct {
	there set
	items int
	bytes int
}

// place is where items stand: within so many blocks, and in a range's Then or not.
type place struct {
	blocks int
	inLoop bool
}

// mayHold tells whether a row of items may stand at a place. It takes their number off ahead of looking at them, so that it ends whatever stands within what.
func (r *room) mayHold(items []api.Item, at place) bool {
	if len(items) > r.items {
		return false
	}
	r.items -= len(items)
	for _, item := range items {
		if !r.mayBe(item, at) {
			return false
		}
	}
	return true
}

// mayBe tells whether an item may stand at a place.
func (r *room) mayBe(item api.Item, at place) bool {
	switch item.Kind {
	case api.ItemIf, api.ItemWith, api.ItemRange:
		return r.mayBlock(item, at)
	}
	return len(item.Then) == 0 && len(item.Else) == 0 && r.mayLeaf(item, at)
}

// mayBlock tells whether a block may stand at a place, with what stands within it.
func (r *room) mayBlock(item api.Item, at place) bool {
	if at.blocks == api.MaxBlocks || item.Text != "" || !pipe.May(item.Pipe) {
		return false
	}
	inElse := place{blocks: at.blocks + 1, inLoop: at.inLoop}
	inThen := place{blocks: at.blocks + 1, inLoop: at.inLoop || item.Kind == api.ItemRange}
	return r.mayHold(item.Then, inThen) && r.mayHold(item.Else, inElse)
}

// mayLeaf tells whether an item that holds no others may stand at a place, by its Text and its Pipe.
func (r *room) mayLeaf(item api.Item, at place) bool {
	switch item.Kind {
	case api.ItemText:
		return len(item.Pipe) == 0 && r.mayText(item.Text)
	case api.ItemHole:
		return item.Text == "" && pipe.May(item.Pipe)
	case api.ItemSet:
		return names.Is(item.Text) && pipe.May(item.Pipe)
	case api.ItemCall:
		return r.there.has(item.Text) && (len(item.Pipe) == 0 || pipe.May(item.Pipe))
	case api.ItemBreak, api.ItemContinue:
		return item.Text == "" && len(item.Pipe) == 0 && at.inLoop
	}
	return false
}

// mayText tells whether there is room for an ItemText, and takes it.
func (r *room) mayText(s string) bool {
	if s == "" || len(s) > r.bytes {
		return false
	}
	r.bytes -= len(s)
	return true
}
