package page_test

import (
	"math"
	"slices"
	"strings"
	"testing"

	"wattle/api"
	"wattle/page"
)

// P7.2: the chapter's examples.
func TestExamples(t *testing.T) {
	s, e := page.Encode(page.Node{Leaf: true, Keys: []string{"a"}, Vals: []string{"x"}}, 512)
	if s != filled("\x01\x00\x01\x01\x00\x01ax", 512) || e != api.OK {
		t.Errorf("%x, error %d", s, e)
	}
	if n := page.Bytes(page.Node{Keys: []string{"m"}, Kids: []uint32{7, 9}}); n != 13 {
		t.Errorf("Bytes: %d", n)
	}
	wantSize(t, 512, 127, 8, api.OK)
	wantSize(t, 4096, 1023, 60, api.OK)
	wantSize(t, 513, 0, 0, api.ErrArg)
	wantRefused(t, "keys b a", page.Node{Leaf: true, Keys: []string{"b", "a"}, Vals: []string{"", ""}}, 512)
	wantRefused(t, "a key of 65 bytes", page.Node{Leaf: true, Keys: []string{strings.Repeat("a", 65)}, Vals: []string{""}}, 512)
	wantRefused(t, "two kids and no key", page.Node{Kids: []uint32{1, 2}}, 512)
	wantNone(t, "noughts", filled("", 512))
	wantNone(t, "nothing", "")
}

// P7.2: blocks, byte by byte.
func TestBlocks(t *testing.T) {
	k64, v200 := strings.Repeat("k", 64), strings.Repeat("v", 200)
	for _, row := range []struct {
		text string
		n    page.Node
	}{
		{"\x01\x00\x00", page.Node{Leaf: true}},
		{"\x01\x00\x01\x01\x00\x00a", page.Node{Leaf: true, Keys: []string{"a"}, Vals: []string{""}}},
		{"\x01\x00\x01\x01\x00\x01\x00\x00", page.Node{Leaf: true, Keys: []string{"\x00"}, Vals: []string{"\x00"}}},
		{"\x01\x00\x02\x01\x00\x02axy\x02\x00\x00ab", page.Node{Leaf: true, Keys: []string{"a", "ab"}, Vals: []string{"xy", ""}}},
		{"\x01\x00\x02\x01\x00\x00\x7f\x01\x00\x01\x80\xff", page.Node{Leaf: true, Keys: []string{"\x7f", "\x80"}, Vals: []string{"", "\xff"}}},
		{"\x01\x00\x01\x40\x00\x03" + k64 + "xyz", page.Node{Leaf: true, Keys: []string{k64}, Vals: []string{"xyz"}}},
		{"\x02\x00\x00\x00\x00\x00\x01", page.Node{Kids: []uint32{1}}},
		{"\x02\x00\x00\xff\xff\xff\xff", page.Node{Kids: []uint32{math.MaxUint32}}},
		{"\x02\x00\x01\x00\x00\x00\x07\x01m\x00\x00\x00\x09", page.Node{Keys: []string{"m"}, Kids: []uint32{7, 9}}},
		{"\x02\x00\x01\x01\x02\x03\x04\x40" + k64 + "\x80\x00\x00\x00", page.Node{Keys: []string{k64}, Kids: []uint32{0x01020304, 1 << 31}}},
		{"\x02\x00\x02\x00\x00\x00\x09\x01\x00\x00\x00\x00\x09\x02\x00\x00\x00\x01\x00\x00", page.Node{Keys: []string{"\x00", "\x00\x00"}, Kids: []uint32{9, 9, 1 << 16}}},
	} {
		for _, size := range sizes() {
			if block := wantStands(t, "a block", row.n, size); block != filled(row.text, size) {
				t.Errorf("%.60x, not %x", block, row.text)
			}
		}
	}
	n := page.Node{Leaf: true, Keys: []string{"k"}, Vals: []string{v200 + v200}}
	if block := wantStands(t, "a value of 400 bytes", n, 2048); !strings.HasPrefix(block, "\x01\x00\x01\x01\x01\x90kv") {
		t.Errorf("%.20x", block)
	}
	n = page.Node{Leaf: true}
	for i := range 300 {
		n.Keys, n.Vals = append(n.Keys, string([]byte{byte(i / 256), byte(i)})), append(n.Vals, "")
	}
	if block := wantStands(t, "300 entries", n, 2048); !strings.HasPrefix(block, "\x01\x01\x2c\x02\x00\x00\x00\x00\x02") {
		t.Errorf("%.20x", block)
	}
}

// P7.2: keys of each length, and of each byte; kids that fill each of their bytes.
func TestKeysAndKids(t *testing.T) {
	leaf, inner := page.Node{Leaf: true}, page.Node{Kids: []uint32{1}}
	for n := 1; n <= 64; n++ {
		leaf.Keys, leaf.Vals = append(leaf.Keys, strings.Repeat("k", n)), append(leaf.Vals, strings.Repeat("v", n%7))
	}
	wantStands(t, "keys of each length", leaf, 4096)
	for b := range 256 {
		key := []string{string([]byte{byte(b)})}
		wantStands(t, "any byte", page.Node{Leaf: true, Keys: key, Vals: key}, 512)
		wantStands(t, "any byte", page.Node{Keys: key, Kids: []uint32{uint32(b) + 1, math.MaxUint32 - uint32(b)}}, 512)
	}
	for i := range 32 {
		inner.Keys = append(inner.Keys, strings.Repeat("\x00", 1+i))
		inner.Kids = append(inner.Kids, 1<<i)
	}
	wantStands(t, "kids of each bit", inner, 4096)
}

// P7.2: texts of a size that no block has are the blocks of no node, whatever stands in them.
func TestDecodeOfNoSize(t *testing.T) {
	node := "\x01\x00\x01\x01\x00\x01ax"
	for size := range 9000 {
		if slices.Contains(sizes(), size) {
			continue
		}
		wantNone(t, "noughts", filled("", size))
		if size >= len(node) {
			wantNone(t, "no size", filled(node, size))
		}
	}
	wantNone(t, "no size", node)
	wantNone(t, "no size", "\x01\x00\x00")
	wantNone(t, "no size", filled("\x02\x00\x00\x00\x00\x00\x01", 1<<20))
}

// P7.2: a first byte other than 01 and 02 is no node's, whatever stands behind it; nor is that of the other kind.
func TestDecodeOfNoKind(t *testing.T) {
	for b := range 256 {
		for i, rest := range []string{"\x00\x00", "\x00\x01\x01\x00\x01ax", "\x00\x00\x00\x00\x00\x01", "\x00\x01\x00\x00\x00\x07\x01m\x00\x00\x00\x09"} {
			if b == 1 && i < 2 || b == 2 && i >= 2 {
				continue
			}
			wantNone(t, "another first byte", filled(string([]byte{byte(b)})+rest, 512))
		}
	}
}

// P7.2: blocks that end early, or whose lengths reach past the end.
func TestDecodeOfTooShort(t *testing.T) {
	fill := func(s string) string { return s + strings.Repeat("\x01", 512-len(s)) }
	for _, s := range []string{
		"\x01\xff\xff", "\x02\xff\xff", "\x01\x01\x00", "\x02\x00\x09\x00\x00\x00\x01", "\x01\x00\x01\xff\xff\xff", "\x01\x00\x01\x01\xff\xffa",
		"\x01\x00\x01\x01\x02\x00a", "\x01\x00\x02\x01\x00\x01ax\x01\x02\x00b", "\x02\x00\x01\x00\x00\x00\x01\xff", "\x02\x00\x02\x00\x00\x00\x01\x01a\x00\x00\x00\x02\xff",
	} {
		wantNone(t, "a length past the end", filled(s, 512))
		wantNone(t, "a length past the end", fill(s))
	}
	for _, size := range sizes() {
		block := wantStands(t, "a full leaf", full(size), size)
		keys := len(full(size).Keys)
		wantNone(t, "a key more than there are", block[:1]+string([]byte{0, byte(keys + 1)})+block[3:])
		wantNone(t, "a key less than there are", block[:1]+string([]byte{0, byte(keys - 1)})+block[3:])
		last := block[:size-len(full(size).Vals[keys-1])-2] // up to the last value's length
		for more := 1; more < 4; more++ {
			val := len(full(size).Vals[keys-1]) + more
			wantNone(t, "a value past the end", last+string([]byte{byte(val / 256), byte(val)})+block[len(last)+2:])
		}
		for n := range len(block) {
			wantNone(t, "an end cut off", block[:n])
		}
	}
}

// P7.2: a filling that is not 00, at each of its places.
func TestDecodeOfFilling(t *testing.T) {
	for _, size := range sizes() {
		for _, n := range []page.Node{{Leaf: true}, {Leaf: true, Keys: []string{"a"}, Vals: []string{"x"}}, {Keys: []string{"m"}, Kids: []uint32{7, 9}}, {Kids: []uint32{3}}} {
			block := []byte(wantStands(t, "a node", n, size))
			for at := page.Bytes(n); at < size; at++ {
				block[at] = byte(1 << (at % 8))
				wantNone(t, "a filling", string(block))
				block[at] = 0
			}
		}
	}
}

// P7.2: blocks that tell what may not stand in them: keys that may not be or don't rise, kids 0, entries above Most, too many kids.
func TestDecodeOfNoNode(t *testing.T) {
	long := strings.Repeat("k", 255)
	for what, s := range map[string]string{
		"a key of 0 bytes":           "\x01\x00\x01\x00\x00\x01x",
		"a key of 65 bytes":          "\x01\x00\x01\x41\x00\x00" + long[:65],
		"a key of 255 bytes":         "\x01\x00\x01\xff\x00\x00" + long,
		"keys that fall":             "\x01\x00\x02\x01\x00\x00b\x01\x00\x00a",
		"a key twice":                "\x01\x00\x02\x01\x00\x01ax\x01\x00\x01ay",
		"no leaf, a key of 0 bytes":  "\x02\x00\x01\x00\x00\x00\x07\x00\x00\x00\x00\x09",
		"no leaf, a key of 65 bytes": "\x02\x00\x01\x00\x00\x00\x07\x41" + long[:65] + "\x00\x00\x00\x09",
		"no leaf, keys that fall":    "\x02\x00\x02\x00\x00\x00\x07\x01n\x00\x00\x00\x08\x01m\x00\x00\x00\x09",
		"no leaf, a key twice":       "\x02\x00\x02\x00\x00\x00\x07\x01m\x00\x00\x00\x08\x01m\x00\x00\x00\x09",
		"a kid 0":                    "\x02\x00\x00\x00\x00\x00\x00",
		"a first kid 0":              "\x02\x00\x01\x00\x00\x00\x00\x01m\x00\x00\x00\x09",
		"a last kid 0":               "\x02\x00\x01\x00\x00\x00\x07\x01m\x00\x00\x00\x00",
	} {
		for _, size := range sizes() {
			wantNone(t, what, filled(s, size))
		}
	}
	for _, size := range sizes() {
		n := page.Node{Leaf: true, Keys: []string{"k"}, Vals: []string{strings.Repeat("v", modelMost(size)-4)}}
		wantNode(t, "an entry of Most bytes", filled(modelBytes(n), size), n)
		n.Vals[0] += "v"
		wantNone(t, "an entry of a byte more than Most", filled(modelBytes(n), size))
		n = page.Node{Kids: []uint32{1}}
		for i := 1; i < modelOrder(size); i++ {
			n.Keys, n.Kids = append(n.Keys, string([]byte{byte(i)})), append(n.Kids, uint32(i))
		}
		wantNode(t, "Order kids", filled(modelBytes(n), size), n)
		n.Keys, n.Kids = append(n.Keys, "\xff"), append(n.Kids, 1)
		wantNone(t, "a kid more than Order", filled(modelBytes(n), size))
	}
}

// R3: what is handed out is new memory, its spare room too: what is written there shows in no later answer, and in no other list.
func TestOwnMemory(t *testing.T) {
	c := chance(71)
	for _, size := range sizes() {
		for range 20 {
			n := c.node(size)
			want := twin(n)
			block := wantStands(t, "a node", n, size)
			first, _ := page.Decode(block)
			second, _ := page.Decode(block)
			clear(n.Keys)
			clear(n.Vals)
			clear(n.Kids)
			clear(first.Keys[:cap(first.Keys)])
			clear(first.Vals[:cap(first.Vals)])
			clear(first.Kids[:cap(first.Kids)])
			if !same(second, want) {
				t.Fatal("one answer shows in another")
			}
			wantNode(t, "the block", block, want)
			third, _ := page.Decode(block)
			clear(third.Keys[:cap(third.Keys)])
			if !slices.Equal(third.Vals, want.Vals) || !slices.Equal(third.Kids, want.Kids) {
				t.Fatal("two lists of one answer share memory")
			}
		}
	}
}
