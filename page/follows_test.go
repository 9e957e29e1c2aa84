package page_test

import (
	"math"
	"strings"
	"testing"

	"wattle/api"
	"wattle/page"
)

// P7.1 to P7.3: any nodes that may stand, in blocks of every size: leaves and others, of few and of many entries.
func TestAnyNode(t *testing.T) {
	c := chance(7)
	for _, size := range sizes() {
		for range 400 {
			n := c.node(size)
			if !modelStands(n, size) {
				t.Fatalf("the model has it that it may not stand: %v", n)
			}
			wantStands(t, "any node", n, size)
		}
	}
}

// P7.1: nodes with one thing turned about in them: they may stand just if the model has it so, and Bytes are the model's.
func TestAnyNodeTurned(t *testing.T) {
	c := chance(72)
	stood := 0
	for range 6000 {
		size := sizes()[c.below(8)]
		n := c.turned(c.node(size))
		if modelStands(n, size) {
			stood++
			wantStands(t, "a node turned about", n, size)
		} else {
			wantRefused(t, "a node turned about", n, size)
		}
	}
	if stood < 300 || stood > 5700 {
		t.Errorf("%d of 6000 stood", stood)
	}
}

// turned is a node with something changed, whether it may be or not.
func (c *chance) turned(n page.Node) page.Node {
	switch c.below(9) {
	case 0:
		n.Leaf = !n.Leaf
	case 1:
		n.Keys = append(n.Keys, c.text(c.below(70)))
	case 2:
		n.Vals = append(n.Vals, c.text(c.below(70)))
	case 3:
		n.Kids = append(n.Kids, c.kid())
	case 4:
		n.Keys = append(n.Keys, strings.Repeat("\xff", 1+c.below(66)))
		if n.Leaf {
			n.Vals = append(n.Vals, c.text(c.below(1100)))
		} else {
			n.Kids = append(n.Kids, uint32(c.below(8)))
		}
	case 5:
		if len(n.Kids) > 0 {
			n.Kids[c.below(len(n.Kids))] = uint32(c.below(3))
		}
	case 6:
		if len(n.Keys) > 1 {
			i, j := c.below(len(n.Keys)), c.below(len(n.Keys))
			n.Keys[i], n.Keys[j] = n.Keys[j], n.Keys[i]
		}
	case 7:
		if len(n.Keys) > 0 {
			n.Keys[c.below(len(n.Keys))] = c.text(c.below(66))
		}
	default:
		if len(n.Vals) > 0 {
			n.Vals[c.below(len(n.Vals))] = c.text(c.below(1100))
		}
	}
	return n
}

// P7.2, P7.3: blocks with bytes turned about: they tell a node just if the model has it so, and then its block is these bytes.
func TestAnyBlockTurned(t *testing.T) {
	c := chance(73)
	told := 0
	for range 30000 {
		size := sizes()[c.below(8)]
		if c.below(3) > 0 {
			size = 512
		}
		n := c.node(size)
		block := []byte(filled(modelBytes(n), size))
		for range 1 + c.below(2) {
			at := c.below([]int{7, 20, len(modelBytes(n)), size}[c.below(4)])
			block[at] = []byte{block[at] ^ 1<<c.below(8), byte(c.below(4)), byte(c.next() >> 30)}[c.below(3)]
		}
		if c.below(8) == 0 {
			at := c.below(size)
			block = append(append(block[:at:at], block[at+1:]...), 0)
		}
		if want, ok := modelDecode(string(block)); ok {
			told++
			wantNode(t, "a block turned about", string(block), want)
		} else {
			wantNone(t, "a block turned about", string(block))
		}
	}
	if told < 3000 || told > 27000 {
		t.Errorf("%d of 30000 were told", told)
	}
}

// P7.2: any bytes: they tell a node just if the model has it so.
func TestAnyBytes(t *testing.T) {
	c := chance(74)
	told := 0
	for range 20000 {
		s := []byte{byte(c.below(4)), 0, byte(c.below(4))}
		for range c.below(30) {
			s = append(s, byte(c.below([]int{2, 3, 256}[c.below(3)])))
		}
		block := filled(string(s), sizes()[c.below(8)])
		if want, ok := modelDecode(block); ok {
			told++
			wantNode(t, "any bytes", block, want)
		} else {
			wantNone(t, "any bytes", block)
		}
	}
	if told < 100 {
		t.Errorf("%d were told", told)
	}
}

// P7.3: unlike nodes have unlike blocks: also such as have the same texts, shared out otherwise.
func TestUnlike(t *testing.T) {
	c := chance(75)
	for _, size := range sizes() {
		blocks := map[string]page.Node{}
		put := func(n page.Node) {
			block := wantStands(t, "a node", n, size)
			if other, there := blocks[block]; there && !same(other, n) {
				t.Fatalf("%v and %v have one block", n, other)
			}
			blocks[block] = n
		}
		for _, n := range []page.Node{
			{Leaf: true}, {Leaf: true, Keys: []string{"a"}, Vals: []string{""}}, {Leaf: true, Keys: []string{"a"}, Vals: []string{"\x00"}}, {Leaf: true, Keys: []string{"a\x00"}, Vals: []string{""}},
			{Leaf: true, Keys: []string{"a"}, Vals: []string{"bc"}}, {Leaf: true, Keys: []string{"ab"}, Vals: []string{"c"}}, {Leaf: true, Keys: []string{"abc"}, Vals: []string{""}},
			{Leaf: true, Keys: []string{"a", "b"}, Vals: []string{"", "c"}}, {Leaf: true, Keys: []string{"a", "b"}, Vals: []string{"c", ""}},
			{Kids: []uint32{1}}, {Kids: []uint32{256}}, {Keys: []string{"\x00"}, Kids: []uint32{1, 1}}, {Keys: []string{"\x00\x00"}, Kids: []uint32{1, 1}}, {Keys: []string{"\x00"}, Kids: []uint32{1, 256}},
		} {
			put(n)
		}
		if len(blocks) != 14 {
			t.Errorf("%d blocks", len(blocks))
		}
		for range 300 {
			put(c.node(size))
		}
	}
}

// P7.4: a node that is no leaf of at most Order kids may stand, whatever its keys: with the longest ones, too.
func TestAnyKeys(t *testing.T) {
	c := chance(76)
	for _, size := range sizes() {
		for kids := 1; kids <= modelOrder(size); kids++ {
			n := page.Node{Kids: []uint32{math.MaxUint32}}
			for i := 1; i < kids; i++ {
				n.Keys = append(n.Keys, string([]byte{byte(i)})+c.text(c.below(64)))
				n.Kids = append(n.Kids, math.MaxUint32)
			}
			wantStands(t, "any keys", n, size)
			for i := range n.Keys {
				n.Keys[i] += strings.Repeat("\xff", 64-len(n.Keys[i]))
				if e := page.Check(n, size); e != api.OK {
					t.Fatalf("%d kids in %d bytes, a key longer: error %d", kids, size, e)
				}
			}
			wantStands(t, "the longest keys", n, size)
		}
	}
}
