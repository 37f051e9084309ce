package tmpl

import (
	"stole/api"
)

// blocks is a stack of the blocks that have no end yet, the outermost first, and the items that stand in none.
type blocks struct {
	items []api.Item
	open  []block
}

// block is an if, with or range, as far as it is read.
type block struct {
	item   api.Item
	inElse bool
}

// put adds an item at the end of the row that is being read.
func (b *blocks) put(item api.Item) {
	row := b.row()
	*row = append(*row, item)
}

// row gives the row that is being read.
func (b *blocks) row() *[]api.Item {
	top := b.top()
	switch {
	case top == nil:
		return &b.items
	case top.inElse:
		return &top.item.Else
	}
	return &top.item.Then
}

// top gives the innermost block that is open; nil, if none is.
func (b *blocks) top() *block {
	if len(b.open) == 0 {
		return nil
	}
	return &b.open[len(b.open)-1]
}

// begin opens a block of an item.
func (b *blocks) begin(item api.Item) api.Errno {
	if len(b.open) == api.MaxBlocks {
		return api.ErrTmplDeep
	}
	b.open = append(b.open, block{item: item})
	return api.OK
}

// turn goes on with the innermost block's Else.
func (b *blocks) turn() api.Errno {
	top := b.top()
	if top == nil || top.inElse {
		return api.ErrTmplElse
	}
	top.inElse = true
	return api.OK
}

// end closes the innermost block, and adds it to the row that it stands in.
func (b *blocks) end() api.Errno {
	top := b.top()
	if top == nil {
		return api.ErrTmplEnd
	}
	item := top.item
	b.open = b.open[:len(b.open)-1]
	b.put(item)
	return api.OK
}

// leave adds an item that leaves a range's Then, if it stands in one.
func (b *blocks) leave(kind int) api.Errno {
	if !b.isInLoop() {
		return api.ErrTmplLoop
	}
	b.put(api.Item{Kind: kind})
	return api.OK
}

// isInLoop tells whether what comes next stands in a range's Then, in whatever depth.
func (b *blocks) isInLoop() bool {
	for _, open := range b.open {
		if open.item.Kind == api.ItemRange && !open.inElse {
			return true
		}
	}
	return false
}
