package page

import (
	"strings"

	"wattle/api"
)

// What the bytes of a node begin with.
const (
	leafMark  = "\x01"
	innerMark = "\x02"
)

// The widths of what a node's bytes have beside its keys, values and kids.
const (
	markWidth  = 1
	countWidth = 2 // how many keys there are
	keyWidth   = 1 // how long a key is
	valWidth   = 2 // how long a value is
)

// Encode is a node's block.
func Encode(n Node, size int) (string, api.Errno) {
	if e := Check(n, size); e != api.OK {
		return "", e
	}
	block := make([]byte, size) // what nothing is put into stays 00
	at := 0
	put := func(text string) { at += copy(block[at:], text) }
	if n.Leaf {
		n.putLeaf(put)
	} else {
		n.putInner(put)
	}
	return string(block), api.OK
}

// Decode is the node of a block.
func Decode(s string) (Node, api.Errno) {
	if Size(len(s)) != api.OK {
		return Node{}, api.ErrForm
	}
	n, whole := nodeOf(s)
	if !whole {
		return Node{}, api.ErrForm
	}
	if again, e := Encode(n, len(s)); e != api.OK || again != s { // a node has one block, so that any other bytes are none's
		return Node{}, api.ErrForm
	}
	return n, api.OK
}

// putLeaf puts a leaf's bytes, one piece behind the other.
func (n Node) putLeaf(put func(string)) {
	put(leafMark + bytesOf(uint32(len(n.Keys)), countWidth))
	for i, key := range n.Keys {
		val := n.Vals[i]
		put(bytesOf(uint32(len(key)), keyWidth))
		put(bytesOf(uint32(len(val)), valWidth))
		put(key)
		put(val)
	}
}

// putInner puts the bytes of a node that is no leaf, one piece behind the other.
func (n Node) putInner(put func(string)) {
	put(innerMark + bytesOf(uint32(len(n.Keys)), countWidth))
	put(bytesOf(n.Kids[0], Kid))
	for i, key := range n.Keys {
		put(bytesOf(uint32(len(key)), keyWidth))
		put(key)
		put(bytesOf(n.Kids[i+1], Kid))
	}
}

// nodeOf is what a block tells, whether it may stand there or not, and whether all of it is there.
func nodeOf(block string) (n Node, whole bool) {
	whole = true
	take := func(width uint32) string {
		if whole = whole && int(width) <= len(block); !whole {
			return ""
		}
		piece := strings.Clone(block[:width]) // a key that is kept shall not keep its block
		block = block[width:]
		return piece
	}
	number := func(width uint32) uint32 { return numberOf(take(width)) }
	n.Leaf = take(markWidth) == leafMark
	count := number(countWidth)
	if !n.Leaf {
		n.Kids = append(n.Kids, number(Kid))
	}
	for i := uint32(0); i < count && whole; i++ {
		if n.Leaf {
			key, val := number(keyWidth), number(valWidth)
			n.Keys = append(n.Keys, take(key))
			n.Vals = append(n.Vals, take(val))
		} else {
			n.Keys = append(n.Keys, take(number(keyWidth)))
			n.Kids = append(n.Kids, number(Kid))
		}
	}
	return n, whole
}

// bytesOf is a number in so many bytes, at most 4, the highest first.
func bytesOf(v uint32, width int) string {
	bytes := [4]byte{byte(v >> 24), byte(v >> 16), byte(v >> 8), byte(v)}
	return string(bytes[len(bytes)-width:])
}

// numberOf is the number in some bytes, at most 4.
func numberOf(text string) uint32 {
	var bytes [4]byte
	copy(bytes[len(bytes)-len(text):], text)
	return uint32(bytes[0])<<24 | uint32(bytes[1])<<16 | uint32(bytes[2])<<8 | uint32(bytes[3])
}
