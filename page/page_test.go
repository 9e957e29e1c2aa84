package page_test

import (
	"math"
	"slices"
	"strings"
	"testing"

	"wattle/api"
	"wattle/page"
)

// odd are numbers that are the size of no block, whatever their rest by 512.
func odd() []int {
	return []int{-1, -512, -4096, math.MinInt, math.MinInt + 512, math.MaxInt, math.MaxInt - 511, 1 << 32, 1<<32 + 512, 1<<40 + 4096, 1 << 62, 4608, 8192, 1 << 16}
}

// P7.1: all sizes about those that may be.
func TestSizes(t *testing.T) {
	if page.Head != 3 || page.Leaf != 3 || page.Kid != 4 {
		t.Errorf("Head %d, Leaf %d, Kid %d", page.Head, page.Leaf, page.Kid)
	}
	all := odd()
	for size := -600; size < 9000; size++ {
		all = append(all, size)
	}
	for _, size := range all {
		if slices.Contains(sizes(), size) {
			wantSize(t, size, modelMost(size), modelOrder(size), api.OK)
		} else {
			wantSize(t, size, 0, 0, api.ErrArg)
		}
	}
}

// P7.1: Most and Order, written out.
func TestMostAndOrder(t *testing.T) {
	for i, size := range sizes() {
		wantSize(t, size, []int{127, 255, 383, 511, 639, 767, 895, 1023}[i], []int{8, 15, 23, 30, 38, 45, 52, 60}[i], api.OK)
	}
}

func wantSize(t *testing.T, size, most, order int, want api.Errno) {
	t.Helper()
	if e := page.Size(size); e != want {
		t.Errorf("Size(%d): error %d", size, e)
	}
	if n, e := page.Most(size); n != most || e != want {
		t.Errorf("Most(%d): %d, error %d, not %d", size, n, e, most)
	}
	if n, e := page.Order(size); n != order || e != want {
		t.Errorf("Order(%d): %d, error %d, not %d", size, n, e, order)
	}
}

// P7.1: nodes in a block of no size that may be; one that may stand in none, too.
func TestNoSize(t *testing.T) {
	for _, size := range append(odd(), 0, 1, 3, 511, 513, 1023, 1025, 2000, 4095, 4097) {
		for _, n := range []page.Node{
			{Leaf: true}, {Leaf: true, Keys: []string{"a"}, Vals: []string{"x"}}, {Kids: []uint32{1}}, {Kids: []uint32{0}}, {}, {Leaf: true, Keys: []string{""}},
		} {
			wantRefused(t, "no size", n, size)
		}
	}
}

// P7.1: Bytes of nodes that are none, too: whose lists don't fit together, whose keys may not be.
func TestBytes(t *testing.T) {
	long := strings.Repeat("k", 70000)
	for _, row := range []struct {
		n    page.Node
		want int
	}{
		{page.Node{}, 3},
		{page.Node{Leaf: true}, 3},
		{page.Node{Leaf: true, Keys: []string{"a"}, Vals: []string{"x"}}, 8},
		{page.Node{Leaf: true, Keys: []string{"a", "bc"}, Vals: []string{"", "xyz"}}, 15},
		{page.Node{Leaf: true, Keys: []string{"a", "bc"}}, 12},
		{page.Node{Leaf: true, Vals: []string{"ab", "c", ""}}, 6},
		{page.Node{Leaf: true, Keys: []string{"a"}, Vals: []string{"ab", "cd"}}, 11},
		{page.Node{Leaf: true, Keys: []string{"", ""}, Vals: []string{""}}, 9},
		{page.Node{Leaf: true, Kids: []uint32{1, 2, 3}}, 3},
		{page.Node{Leaf: true, Keys: []string{"a"}, Vals: []string{"x"}, Kids: []uint32{1}}, 8},
		{page.Node{Leaf: true, Keys: []string{long}, Vals: []string{long}}, 140006},
		{page.Node{Kids: []uint32{1}}, 7},
		{page.Node{Keys: []string{"m"}, Kids: []uint32{7, 9}}, 13},
		{page.Node{Keys: []string{"m", "nop"}, Kids: []uint32{7, 9, 11}}, 21},
		{page.Node{Keys: []string{"m", "nop"}}, 9},
		{page.Node{Keys: []string{"", "", ""}}, 6},
		{page.Node{Keys: []string{"b", "a"}, Kids: []uint32{0, 0}}, 15},
		{page.Node{Kids: make([]uint32, 1000)}, 4003},
		{page.Node{Vals: []string{"abc", "d"}}, 3},
		{page.Node{Keys: []string{"m"}, Vals: []string{"abc"}, Kids: []uint32{7, 9}}, 13},
		{page.Node{Keys: []string{long}, Kids: []uint32{7}}, 70008},
		{page.Node{Leaf: true, Keys: make([]string, 100000)}, 300003},
		{page.Node{Keys: make([]string, 100000)}, 100003},
	} {
		if got := page.Bytes(row.n); got != row.want {
			t.Errorf("Bytes(%.100v): %d, not %d", row.n, got, row.want)
		}
	}
}

// P7.1: what is no node may stand in no block.
func TestNoNode(t *testing.T) {
	k65 := strings.Repeat("k", 65)
	for what, n := range map[string]page.Node{
		"a key of 0 bytes":                    {Leaf: true, Keys: []string{""}, Vals: []string{"x"}},
		"a key of 0 bytes ahead of one":       {Leaf: true, Keys: []string{"", "a"}, Vals: []string{"x", "y"}},
		"a key of 65 bytes":                   {Leaf: true, Keys: []string{k65}, Vals: []string{""}},
		"a key of 65 bytes behind one":        {Leaf: true, Keys: []string{"a", k65}, Vals: []string{"", ""}},
		"a key of 256 bytes":                  {Leaf: true, Keys: []string{strings.Repeat("k", 256)}, Vals: []string{""}},
		"keys that fall":                      {Leaf: true, Keys: []string{"b", "a"}, Vals: []string{"x", "y"}},
		"keys that fall at the end":           {Leaf: true, Keys: []string{"a", "c", "b"}, Vals: []string{"", "", ""}},
		"a key ahead of its beginning":        {Leaf: true, Keys: []string{"ab", "a"}, Vals: []string{"", ""}},
		"keys by their lengths":               {Leaf: true, Keys: []string{"b", "aa"}, Vals: []string{"", ""}},
		"keys that rise as signed bytes":      {Leaf: true, Keys: []string{"\x80", "\x7f"}, Vals: []string{"", ""}},
		"a key twice":                         {Leaf: true, Keys: []string{"a", "a"}, Vals: []string{"x", "y"}},
		"a key twice, but not in a row":       {Leaf: true, Keys: []string{"a", "b", "a"}, Vals: []string{"", "", ""}},
		"a leaf with a kid":                   {Leaf: true, Keys: []string{"a"}, Vals: []string{"x"}, Kids: []uint32{1}},
		"a leaf with kids, one more":          {Leaf: true, Keys: []string{"a"}, Vals: []string{"x"}, Kids: []uint32{1, 2}},
		"a leaf of no key with a kid":         {Leaf: true, Kids: []uint32{1}},
		"a leaf with too few values":          {Leaf: true, Keys: []string{"a", "b"}, Vals: []string{"x"}},
		"a leaf without values":               {Leaf: true, Keys: []string{"a"}},
		"a leaf with too many values":         {Leaf: true, Keys: []string{"a"}, Vals: []string{"x", "y"}},
		"a leaf of no key with a value":       {Leaf: true, Vals: []string{""}},
		"no leaf, with values":                {Keys: []string{"m"}, Vals: []string{"x"}, Kids: []uint32{7, 9}},
		"no leaf, with an empty value":        {Kids: []uint32{7}, Vals: []string{""}},
		"no leaf, with values in kids' place": {Keys: []string{"m"}, Vals: []string{"x"}},
		"no leaf, without kids":               {},
		"no leaf, a key without kids":         {Keys: []string{"m"}},
		"no leaf, as many kids as keys":       {Keys: []string{"m"}, Kids: []uint32{7}},
		"no leaf, two kids more than keys":    {Keys: []string{"m"}, Kids: []uint32{7, 8, 9}},
		"no leaf, two kids and no key":        {Kids: []uint32{7, 8}},
		"no leaf, a kid 0":                    {Kids: []uint32{0}},
		"no leaf, a last kid 0":               {Keys: []string{"m"}, Kids: []uint32{7, 0}},
		"no leaf, a first kid 0":              {Keys: []string{"m"}, Kids: []uint32{0, 7}},
		"no leaf, a middle kid 0":             {Keys: []string{"m", "n"}, Kids: []uint32{8, 0, 7}},
		"no leaf, a key of 0 bytes":           {Keys: []string{""}, Kids: []uint32{7, 9}},
		"no leaf, a key of 65 bytes":          {Keys: []string{k65}, Kids: []uint32{7, 9}},
		"no leaf, keys that fall":             {Keys: []string{"n", "m"}, Kids: []uint32{7, 8, 9}},
		"no leaf, a key twice":                {Keys: []string{"m", "m"}, Kids: []uint32{7, 8, 9}},
	} {
		if modelIs(n) {
			t.Errorf("%s: a node", what)
		}
		for _, size := range sizes() {
			wantRefused(t, what, n, size)
		}
	}
}

// P7.1: an entry of a leaf has at most Most bytes, however they are shared by its key and its value.
func TestMost(t *testing.T) {
	for _, size := range sizes() {
		room := modelMost(size) - 3
		for _, key := range []int{1, 2, 63, 64} {
			n := page.Node{Leaf: true, Keys: []string{strings.Repeat("k", key)}, Vals: []string{strings.Repeat("v", room-key)}}
			wantStands(t, "an entry of Most bytes", n, size)
			n.Vals[0] += "v"
			wantRefused(t, "an entry of a byte more than Most", n, size)
			n.Keys, n.Vals = append([]string{"a"}, n.Keys...), append([]string{""}, n.Vals...)
			wantRefused(t, "an entry of a byte more than Most, behind another one", n, size)
			n.Vals[1] = strings.Repeat("v", 4095)
			wantRefused(t, "a value of 4095 bytes", n, size)
			n.Vals[1] += "v"
			wantRefused(t, "a value of 4096 bytes", n, size)
			n.Vals[1] = strings.Repeat("v", 65536)
			wantRefused(t, "a value of 65536 bytes", n, size)
		}
	}
}

// P7.1: a node that is no leaf has one kid to Order kids.
func TestOrder(t *testing.T) {
	for _, size := range sizes() {
		for kids := 1; kids <= modelOrder(size)+2; kids++ {
			n := page.Node{Kids: []uint32{1}}
			for i := 1; i < kids; i++ {
				n.Keys = append(n.Keys, string([]byte{byte(i)}))
				n.Kids = append(n.Kids, uint32(i))
			}
			if kids <= modelOrder(size) {
				wantStands(t, "kids", n, size)
			} else {
				wantRefused(t, "too many kids", n, size)
			}
		}
	}
}

// full is a leaf of the size's bytes: four entries of Most bytes at most.
func full(size int) page.Node {
	n := page.Node{Leaf: true}
	for left := size - 3; left > 0; {
		entry := min(left, modelMost(size))
		if left > entry && left-entry < 4 {
			entry -= 4
		}
		left -= entry
		n.Keys = append(n.Keys, string([]byte{byte(len(n.Keys))}))
		n.Vals = append(n.Vals, strings.Repeat("\xff", entry-4))
	}
	return n
}

// P7.1, P7.2: a leaf may fill a block to its last byte, and not more.
func TestFull(t *testing.T) {
	for _, size := range sizes() {
		n := full(size)
		if page.Bytes(n) != size {
			t.Fatalf("%d bytes, not %d", page.Bytes(n), size)
		}
		block := wantStands(t, "a full leaf", n, size)
		if block[size-1] != 0xff {
			t.Errorf("the last byte is %x", block[size-1])
		}
		for i := range n.Keys {
			more := twin(n)
			more.Keys[i] += "\x00"
			if 4+len(more.Vals[i]) < modelMost(size) {
				wantRefused(t, "a byte more in a key", more, size)
				more = twin(n)
				more.Vals[i] += "\x00"
				wantRefused(t, "a byte more in a value", more, size)
			}
			less := twin(n)
			less.Vals[i] = less.Vals[i][1:]
			wantStands(t, "a byte less", less, size)
		}
		more := twin(n)
		more.Keys, more.Vals = append(more.Keys, "z"), append(more.Vals, "")
		wantRefused(t, "an entry more", more, size)
		if size < 4096 {
			wantStands(t, "in a greater block", n, size+512)
			wantStands(t, "an entry more in a greater block", more, size+512)
		}
	}
	n := page.Node{Kids: []uint32{1}} // in 2560 bytes there is room for just the longest keys
	for i := range 37 {
		n.Keys, n.Kids = append(n.Keys, string([]byte{byte(i)})+strings.Repeat("k", 63)), append(n.Kids, math.MaxUint32)
	}
	if block := wantStands(t, "a full node that is no leaf", n, 2560); page.Bytes(n) != 2560 || block[2559] != 0xff {
		t.Errorf("%d bytes, the last byte is %x", page.Bytes(n), block[2559])
	}
	wantRefused(t, "a full node in a smaller block", n, 2048)
}

// P7.1, P7.2: many entries of few bytes: as many as there is room for, and one more.
func TestMany(t *testing.T) {
	for _, size := range sizes() {
		n := page.Node{Leaf: true}
		for i := range (size - 3) / 5 {
			n.Keys = append(n.Keys, string([]byte{byte(i / 256), byte(i)}))
			n.Vals = append(n.Vals, "")
		}
		wantStands(t, "many entries", n, size)
		n.Keys, n.Vals = append(n.Keys, "\xff\xff"), append(n.Vals, "")
		wantRefused(t, "an entry more", n, size)
	}
	n := page.Node{Leaf: true}
	for i := range 65536 + 1 {
		n.Keys = append(n.Keys, string([]byte{byte(i >> 16), byte(i >> 8), byte(i)}))
		n.Vals = append(n.Vals, "")
	}
	wantRefused(t, "as many entries as two bytes don't tell", n, 4096)
}

// R3: spare room behind lists is not looked at, and what is handed in is not changed.
func TestSpareRoom(t *testing.T) {
	keys, vals, kids := []string{"a", "b", "", "a"}, []string{"x", "y", strings.Repeat("v", 9999)}, []uint32{5, 6, 7, 0, 0}
	wantStands(t, "a leaf", page.Node{Leaf: true, Keys: keys[:2], Vals: vals[:2], Kids: kids[:0]}, 512)
	wantStands(t, "no leaf", page.Node{Keys: keys[:2], Vals: vals[:0], Kids: kids[:3]}, 512)
	if !slices.Equal(keys, []string{"a", "b", "", "a"}) || !slices.Equal(kids, []uint32{5, 6, 7, 0, 0}) || len(vals[2]) != 9999 {
		t.Error("the lists were changed")
	}
}
