package page_test

import (
	"bytes"
	"slices"
	"testing"

	"wattle/api"
	"wattle/page"
)

// The plain model: the chapter's words done one after the other, with the numbers written out.

// sizes are those that a block may have.
func sizes() []int { return []int{512, 1024, 1536, 2048, 2560, 3072, 3584, 4096} }

func modelMost(size int) int { return (size - 3) / 4 }

func modelOrder(size int) int { return 1 + (size-7)/69 }

// modelIs says whether it is a node.
func modelIs(n page.Node) bool {
	for i, key := range n.Keys {
		if len(key) == 0 || len(key) > 64 {
			return false
		}
		if i > 0 && bytes.Compare([]byte(n.Keys[i-1]), []byte(key)) >= 0 {
			return false
		}
	}
	for _, val := range n.Vals {
		if len(val) > 4095 {
			return false
		}
	}
	for _, kid := range n.Kids {
		if kid < 1 {
			return false
		}
	}
	if n.Leaf {
		return len(n.Vals) == len(n.Keys) && len(n.Kids) == 0
	}
	return len(n.Vals) == 0 && len(n.Kids) == len(n.Keys)+1
}

// modelStands says whether it may stand in a block of a size that may be.
func modelStands(n page.Node, size int) bool {
	if !modelIs(n) || len(modelBytes(n)) > size {
		return false
	}
	for i := range n.Vals {
		if 3+len(n.Keys[i])+len(n.Vals[i]) > modelMost(size) {
			return false
		}
	}
	return n.Leaf || len(n.Kids) >= 1 && len(n.Kids) <= modelOrder(size)
}

// modelBytes are the bytes of a node.
func modelBytes(n page.Node) string {
	b := []byte{2, byte(len(n.Keys) / 256), byte(len(n.Keys) % 256)}
	kid := func(v uint32) {
		b = append(b, byte(v/(256*256*256)), byte(v/(256*256)%256), byte(v/256%256), byte(v%256))
	}
	if n.Leaf {
		b[0] = 1
	} else {
		kid(n.Kids[0])
	}
	for i, key := range n.Keys {
		b = append(b, byte(len(key)))
		if n.Leaf {
			b = append(b, byte(len(n.Vals[i])/256), byte(len(n.Vals[i])%256))
			b = append(b, key+n.Vals[i]...)
		} else {
			b = append(b, key...)
			kid(n.Kids[i+1])
		}
	}
	return string(b)
}

// filled is a block that begins with a text.
func filled(text string, size int) string { return text + string(make([]byte, size-len(text))) }

// modelDecode is the node whose block it is, and whether there is one: read byte by byte, and each thing asked that the chapter asks.
func modelDecode(s string) (page.Node, bool) {
	if !slices.Contains(sizes(), len(s)) || s[0] != 1 && s[0] != 2 {
		return page.Node{}, false
	}
	n := page.Node{Leaf: s[0] == 1}
	at, short := 1, false
	number := func(width int) int {
		v := 0
		for range width {
			if at >= len(s) {
				short = true
				return 0
			}
			v = 256*v + int(s[at])
			at++
		}
		return v
	}
	text := func(width int) string {
		if at+width > len(s) {
			short = true
			return ""
		}
		at += width
		return s[at-width : at]
	}
	keys := number(2)
	if !n.Leaf {
		n.Kids = append(n.Kids, uint32(number(4)))
	}
	for range keys {
		if short {
			return page.Node{}, false
		}
		key := number(1)
		if n.Leaf {
			val := number(2)
			n.Keys = append(n.Keys, text(key))
			n.Vals = append(n.Vals, text(val))
		} else {
			n.Keys = append(n.Keys, text(key))
			n.Kids = append(n.Kids, uint32(number(4)))
		}
	}
	if short || !modelStands(n, len(s)) {
		return page.Node{}, false
	}
	for _, b := range []byte(s[at:]) {
		if b != 0 {
			return page.Node{}, false
		}
	}
	return n, true
}

// same says whether they are the same node.
func same(a, b page.Node) bool {
	return a.Leaf == b.Leaf && slices.Equal(a.Keys, b.Keys) && slices.Equal(a.Vals, b.Vals) && slices.Equal(a.Kids, b.Kids)
}

// twin is the same node, in memory of its own.
func twin(n page.Node) page.Node {
	return page.Node{Leaf: n.Leaf, Keys: slices.Clone(n.Keys), Vals: slices.Clone(n.Vals), Kids: slices.Clone(n.Kids)}
}

// chance gives the same numbers at each run.
type chance uint64

func (c *chance) next() uint64 {
	*c ^= *c << 13
	*c ^= *c >> 7
	*c ^= *c << 17
	return uint64(*c)
}

func (c *chance) below(n int) int { return int(c.next() >> 8 % uint64(n)) }

// text is n bytes, of all kinds or of few ones, so that keys have much in common, too.
func (c *chance) text(n int) string {
	kinds := []int{256, 2, 3}[c.below(3)]
	text := make([]byte, n)
	for i := range text {
		text[i] = byte(c.below(kinds))
	}
	return string(text)
}

// keys are about n ones that may be, rising.
func (c *chance) keys(n int) []string {
	longest := []int{1, 2, 8, 64}[c.below(4)]
	var l []string
	for range n {
		l = append(l, c.text(1+c.below(longest)))
	}
	slices.Sort(l)
	return slices.Compact(l)
}

// kid is a number that a kid may have.
func (c *chance) kid() uint32 {
	return max(1, uint32(c.next()>>20)>>c.below(32))
}

// inner is a node that is no leaf and may stand in a block of that size.
func (c *chance) inner(size int) page.Node {
	n := page.Node{Keys: c.keys(c.below(modelOrder(size)))}
	for range len(n.Keys) + 1 {
		n.Kids = append(n.Kids, c.kid())
	}
	return n
}

// leaf is one that may stand in a block of that size.
func (c *chance) leaf(size int) page.Node {
	n := page.Node{Leaf: true}
	at, longest := 3, 1+c.below(modelMost(size))
	for _, key := range c.keys(c.below(2 + c.below(size/2))) {
		val := c.text(min(c.below(longest), modelMost(size)-3-len(key)))
		if at += 3 + len(key) + len(val); at > size {
			break
		}
		n.Keys = append(n.Keys, key)
		n.Vals = append(n.Vals, val)
	}
	return n
}

// node is one that may stand in a block of that size.
func (c *chance) node(size int) page.Node {
	if c.below(2) == 0 {
		return c.leaf(size)
	}
	return c.inner(size)
}

// wantStands fails if a node may not stand in a block of that size, has other bytes than the model's, or another block, or is not what its block tells. It tells the block.
func wantStands(t *testing.T, what string, n page.Node, size int) string {
	t.Helper()
	was := twin(n)
	if e := page.Check(n, size); e != api.OK {
		t.Fatalf("%s: Check in %d bytes: error %d", what, size, e)
	}
	text := modelBytes(n)
	if got := page.Bytes(n); got != len(text) {
		t.Fatalf("%s: Bytes: %d, not %d", what, got, len(text))
	}
	block, e := page.Encode(n, size)
	if e != api.OK || block != filled(text, size) {
		t.Fatalf("%s: Encode in %d bytes: %d bytes %.40x, error %d, not %.40x", what, size, len(block), block, e, text)
	}
	wantNode(t, what, block, n)
	if !same(n, was) {
		t.Fatalf("%s: it was changed", what)
	}
	return block
}

// wantNode fails if a block does not tell that node, or that node has another block.
func wantNode(t *testing.T, what, block string, n page.Node) {
	t.Helper()
	got, e := page.Decode(block)
	if e != api.OK || !same(got, n) {
		t.Fatalf("%s: Decode of %d bytes: %v, error %d, not %v", what, len(block), got, e, n)
	}
	if again, e := page.Encode(got, len(block)); e != api.OK || again != block {
		t.Fatalf("%s: encoded again: %.40x, error %d", what, again, e)
	}
}

// wantRefused fails if a node may stand in a block of that size, or Encode tells anything beside the error.
func wantRefused(t *testing.T, what string, n page.Node, size int) {
	t.Helper()
	was := twin(n)
	if e := page.Check(n, size); e != api.ErrArg {
		t.Errorf("%s: Check in %d bytes: error %d", what, size, e)
	}
	if s, e := page.Encode(n, size); s != "" || e != api.ErrArg {
		t.Errorf("%s: Encode in %d bytes: %d bytes, error %d", what, size, len(s), e)
	}
	if !same(n, was) {
		t.Errorf("%s: it was changed", what)
	}
}

// wantNone fails if some bytes tell a node, or anything beside the error.
func wantNone(t *testing.T, what, s string) {
	t.Helper()
	if n, e := page.Decode(s); n.Leaf || len(n.Keys)+len(n.Vals)+len(n.Kids) > 0 || e != api.ErrForm {
		t.Errorf("%s: Decode of %d bytes %.40x: leaf %v, %d keys, %d values, %d kids, error %d", what, len(s), s, n.Leaf, len(n.Keys), len(n.Vals), len(n.Kids), e)
	}
}
