package bitio_test

import (
	"math"
	"strconv"
	"strings"
	"testing"

	"wattle/api"
	"wattle/bitio"
)

// heads are rows that leave a writer at each place in a byte.
var heads = []string{"", "1", "01", "110", "0011", "10101", "000000", "1111111", "10011010", "101100111"}

// P1.1: a new writer has no bits.
func TestNew(t *testing.T) {
	w := bitio.New()
	if w == nil {
		t.Fatal("New: nil")
	}
	wantRow(t, "New", w, "")
}

// P1.1: the chapter's first two examples.
func TestWriterExamples(t *testing.T) {
	w := bitio.New()
	wantErr(t, "Bit(true)", w.Bit(true), api.OK)
	wantErr(t, "Put(5, 4)", w.Put(5, 4), api.OK)
	if s, e := w.Text(); w.Len() != 5 || s != "\xa8" || e != api.OK {
		t.Errorf("Len %d, Text %x, %v", w.Len(), s, e)
	}
	w = bitio.New()
	wantErr(t, "Put(2, 1)", w.Put(2, 1), api.ErrArg)
	wantErr(t, "Put(0, 65)", w.Put(0, 65), api.ErrArg)
	wantErr(t, "Put(2^64-1, 64)", w.Put(math.MaxUint64, 64), api.OK)
	wantErr(t, "Put(0, 0)", w.Put(0, 0), api.OK)
	wantRow(t, "behind all", w, strings.Repeat("1", 64))
}

// P1.1: bits stand one behind the other, the highest of a byte first.
func TestWriterBit(t *testing.T) {
	c := chance(11)
	row := ""
	w := bitio.New()
	for i := range 100 {
		b := c.below(2) == 1
		wantErr(t, "Bit", w.Bit(b), api.OK)
		row += map[bool]string{false: "0", true: "1"}[b]
		wantRow(t, strconv.Itoa(i+1)+" bits", w, row)
	}
}

// P1.1: numbers of every width, at every place in a byte.
func TestPutWidths(t *testing.T) {
	for _, head := range heads {
		for n := 0; n <= 64; n++ {
			for _, v := range edgeNumbers(n) {
				what := "Put(" + strconv.FormatUint(v, 10) + ", " + strconv.Itoa(n) + ") behind " + head
				w := written(t, head)
				wantErr(t, what, w.Put(v, n), api.OK)
				row := head + rowOfNumber(v, n)
				wantRow(t, what, w, row)
				wantErr(t, "Bit", w.Bit(true), api.OK)
				wantRow(t, what+" and a bit", w, row+"1")
			}
		}
	}
}

// P1.1, R4: what Put refuses changes nothing.
func TestPutRefused(t *testing.T) {
	for _, head := range heads {
		w := written(t, head)
		for _, n := range []int{-1, -8, -64, 65, 66, 72, 128, 1 << 32, math.MaxInt, math.MinInt} {
			wantErr(t, "Put(0, "+strconv.Itoa(n)+")", w.Put(0, n), api.ErrArg)
			wantErr(t, "Put(1, "+strconv.Itoa(n)+")", w.Put(1, n), api.ErrArg)
		}
		for n := range 64 {
			for _, v := range []uint64{1 << n, 1<<n + 1, 1 << 63, math.MaxUint64} {
				if v>>n != 0 {
					wantErr(t, "Put of too much in "+strconv.Itoa(n), w.Put(v, n), api.ErrArg)
				}
			}
		}
		wantRow(t, "behind refused Puts", w, head)
		wantErr(t, "Put(1, 3)", w.Put(1, 3), api.OK)
		wantRow(t, "gone on with", w, head+"001")
	}
}

// P1.1: Add takes the first n bits of a text, and none behind them.
func TestAddLengths(t *testing.T) {
	c := chance(5)
	for _, text := range []string{"", "\x00", "\xff", "\x80\x01", "abc", c.text(8), c.text(9), strings.Repeat("\xff", 17), c.text(17), c.text(24)} {
		for _, head := range heads {
			for n := 0; n <= 8*len(text); n++ {
				what := "Add(" + strconv.Quote(text) + ", " + strconv.Itoa(n) + ") behind " + head
				w := written(t, head)
				wantErr(t, what, w.Add(text, n), api.OK)
				wantRow(t, what, w, head+rowOf(text)[:n])
				wantErr(t, "Put(1, 2)", w.Put(1, 2), api.OK)
				wantRow(t, what+" and two bits", w, head+rowOf(text)[:n]+"01")
			}
		}
	}
}

// P1.1, R4: what Add refuses changes nothing.
func TestAddRefused(t *testing.T) {
	for _, head := range heads {
		w := written(t, head)
		for _, text := range []string{"", "a", "abc", strings.Repeat("z", 20)} {
			for _, n := range []int{-1, -8, 8*len(text) + 1, 8*len(text) + 8, 1 << 40, math.MaxInt, math.MinInt} {
				wantErr(t, "Add("+strconv.Quote(text)+", "+strconv.Itoa(n)+")", w.Add(text, n), api.ErrArg)
			}
		}
		wantRow(t, "behind refused Adds", w, head)
	}
}

// P1.1: a writer is gone on with behind Text, and what Text told stays as it was.
func TestTextThenOn(t *testing.T) {
	w := written(t, "10110")
	first, _ := w.Text()
	again, _ := w.Text()
	wantErr(t, "Put(7, 3)", w.Put(7, 3), api.OK)
	second, _ := w.Text()
	wantErr(t, "Add", w.Add("\x55", 7), api.OK)
	if first != "\xb0" || again != first || second != "\xb7" {
		t.Errorf("%x, %x, %x", first, again, second)
	}
	wantRow(t, "at last", w, "101101110101010")
}

// full is a writer with some bits less than MaxBits.
func full(t *testing.T, less int) *bitio.Writer {
	t.Helper()
	w := bitio.New()
	wantErr(t, "Add of very many", w.Add(strings.Repeat("\xa5", bitio.MaxBits/8), bitio.MaxBits-less), api.OK)
	return w
}

// P1.1, Limits: there are at most MaxBits bits, whichever way they come.
func TestWriterFull(t *testing.T) {
	if bitio.MaxBits != 1<<27 {
		t.Fatalf("MaxBits %d", bitio.MaxBits)
	}
	w := full(t, 0)
	before, _ := w.Text()
	wantErr(t, "Bit(false)", w.Bit(false), api.ErrFull)
	wantErr(t, "Bit(true)", w.Bit(true), api.ErrFull)
	wantErr(t, "Put(0, 1)", w.Put(0, 1), api.ErrFull)
	wantErr(t, "Put(2^64-1, 64)", w.Put(math.MaxUint64, 64), api.ErrFull)
	wantErr(t, "Add(a, 1)", w.Add("a", 1), api.ErrFull)
	wantErr(t, "Put(0, 0)", w.Put(0, 0), api.OK)
	wantErr(t, "Add(a, 0)", w.Add("a", 0), api.OK)
	wantErr(t, "Put(2, 1)", w.Put(2, 1), api.ErrArg)
	wantErr(t, "Put(0, 65)", w.Put(0, 65), api.ErrArg)
	wantErr(t, "Put(1, 0)", w.Put(1, 0), api.ErrArg)
	wantErr(t, "Add(a, 9)", w.Add("a", 9), api.ErrArg)
	wantErr(t, "Add(a, -1)", w.Add("a", -1), api.ErrArg)
	after, e := w.Text()
	if e != api.OK || w.Len() != bitio.MaxBits || after != before || len(after) != bitio.MaxBits/8 {
		t.Errorf("a full writer has changed: %v, %d bits", e, w.Len())
	}
}

// P1.1, R4, Limits: one bit more than there is room for is refused whole; the last bits fit just so.
func TestWriterNearlyFull(t *testing.T) {
	put := func(w *bitio.Writer, n int) api.Errno { return w.Put(1, n) }
	add := func(w *bitio.Writer, n int) api.Errno { return w.Add(strings.Repeat("\x01", 10), n) }
	for _, x := range []struct {
		what string
		less int
		call func(w *bitio.Writer, n int) api.Errno
	}{{"Put", 1, put}, {"Put", 3, put}, {"Put", 63, put}, {"Add", 1, add}, {"Add", 72, add}} {
		w := full(t, x.less)
		before, _ := w.Text()
		wantErr(t, x.what+" of one bit more", x.call(w, x.less+1), api.ErrFull)
		if s, _ := w.Text(); w.Len() != bitio.MaxBits-x.less || s != before {
			t.Errorf("%s: refused, but there are %d bits", x.what, w.Len())
		}
		wantErr(t, x.what+" that fits", x.call(w, x.less), api.OK)
		want := byte(1)
		if x.what == "Add" && x.less == 1 { // the highest bit of 01
			want = 0
		}
		if s, _ := w.Text(); w.Len() != bitio.MaxBits || len(s) != bitio.MaxBits/8 || s[len(s)-1]&1 != want {
			t.Errorf("%s: %d bits in %d bytes", x.what, w.Len(), len(s))
		}
		wantErr(t, "Bit", w.Bit(true), api.ErrFull)
	}
	w := full(t, 1)
	wantErr(t, "the last Bit", w.Bit(true), api.OK)
	wantErr(t, "one Bit more", w.Bit(true), api.ErrFull)
}

// P1.1, R1, R5: a nil writer, ahead of any other error.
func TestNilWriter(t *testing.T) {
	var w *bitio.Writer
	wantErr(t, "Bit", w.Bit(true), api.ErrNil)
	wantErr(t, "Put(1, 1)", w.Put(1, 1), api.ErrNil)
	wantErr(t, "Put(2, 1)", w.Put(2, 1), api.ErrNil)
	wantErr(t, "Put(0, -1)", w.Put(0, -1), api.ErrNil)
	wantErr(t, "Add(a, 8)", w.Add("a", 8), api.ErrNil)
	wantErr(t, "Add(a, 9)", w.Add("a", 9), api.ErrNil)
	if s, e := w.Text(); s != "" || e != api.ErrNil {
		t.Errorf("Text %q, %v", s, e)
	}
	if w.Len() != 0 {
		t.Errorf("Len %d", w.Len())
	}
}

// R1: a writer that New has not made does not panic.
func TestZeroWriter(t *testing.T) {
	for range 2 {
		w := new(bitio.Writer)
		w.Text()
		w.Bit(true)
		w.Put(5, 64)
		w.Add("abc", 23)
		w.Len()
		w.Text()
	}
}

// R2: writers do not see one another.
func TestWritersApart(t *testing.T) {
	c := chance(77)
	var ws [3]*bitio.Writer
	var rows [3]string
	for i := range ws {
		ws[i] = bitio.New()
	}
	for range 200 {
		i, n := c.below(3), c.below(65)
		v := c.inBits(n)
		wantErr(t, "Put", ws[i].Put(v, n), api.OK)
		rows[i] += rowOfNumber(v, n)
	}
	for i, w := range ws {
		wantRow(t, "writer "+strconv.Itoa(i), w, rows[i])
	}
}
