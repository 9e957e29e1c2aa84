package bitio_test

import (
	"testing"

	"wattle/api"
	"wattle/bitio"
)

// writtenPieces is a writer that has these numbers.
func writtenPieces(t *testing.T, l []piece) *bitio.Writer {
	t.Helper()
	w := bitio.New()
	for _, p := range l {
		wantErr(t, "Put", w.Put(p.v, p.n), api.OK)
	}
	return w
}

// P1.4: what was written is read again, from any place at which a number was begun; what is behind it are fewer than 8 bits, all 0.
func TestThereAndBack(t *testing.T) {
	c := chance(41)
	for count := range 40 {
		l := c.pieces(count)
		w := writtenPieces(t, l)
		s, _ := w.Text()
		r := bitio.Open(s)
		at := 0
		for first := 0; first <= len(l); first++ {
			wantErr(t, "Seek", r.Seek(at), api.OK)
			for i, p := range l[first:] {
				if v, e := r.Take(p.n); v != p.v || e != api.OK {
					t.Fatalf("number %d from %d on: %d, %v; want %d in %d bits", first+i, first, v, e, p.v, p.n)
				}
			}
			wantPlace(t, "behind all", r, w.Len(), 8*len(s))
			if r.Left() >= 8 {
				t.Fatalf("%d bits are left", r.Left())
			}
			if v, e := r.Take(r.Left()); v != 0 || e != api.OK {
				t.Fatalf("the filling: %b, %v", v, e)
			}
			if first < len(l) {
				at += l[first].n
			}
		}
	}
}

// P1.4: bits, numbers and texts in turns are read again.
func TestMixedThereAndBack(t *testing.T) {
	c := chance(43)
	w := bitio.New()
	row := ""
	for range 300 {
		switch c.below(3) {
		case 0:
			b := c.below(2)
			wantErr(t, "Bit", w.Bit(b == 1), api.OK)
			row += rowOfNumber(uint64(b), 1)
		case 1:
			n := c.below(65)
			v := c.inBits(n)
			wantErr(t, "Put", w.Put(v, n), api.OK)
			row += rowOfNumber(v, n)
		default:
			text := c.text(c.below(30))
			n := c.below(8*len(text) + 1)
			wantErr(t, "Add", w.Add(text, n), api.OK)
			row += rowOf(text)[:n]
		}
	}
	wantRow(t, "all", w, row)
	s, _ := w.Text()
	r := bitio.Open(s)
	for i := range row {
		if b, e := r.Bit(); b != (row[i] == '1') || e != api.OK {
			t.Fatalf("bit %d: %v, %v", i, b, e)
		}
	}
}

// P1.5: the same bits are the same text, however they were cut.
func TestCutsDoNotShow(t *testing.T) {
	c := chance(45)
	for range 60 {
		want := c.text(1 + c.below(40))
		row := rowOf(want)
		row = row[:len(row)-c.below(8)]
		wantRow(t, "bit by bit", written(t, row), row)
		for range 5 {
			byPut, byAdd := bitio.New(), bitio.New()
			for at := 0; at < len(row); {
				n := min(c.below(65), len(row)-at)
				part := row[at : at+n]
				wantErr(t, "Put", byPut.Put(numberOf(part), n), api.OK)
				wantErr(t, "Add", byAdd.Add(textOf(part), n), api.OK)
				at += n
			}
			wantRow(t, "by numbers", byPut, row)
			wantRow(t, "by texts", byAdd, row)
		}
		whole := bitio.New()
		wantErr(t, "Add", whole.Add(want, len(row)), api.OK)
		wantRow(t, "at once", whole, row)
	}
}

// P1.5: Pack is what a writer makes of the same numbers.
func TestPackIsPut(t *testing.T) {
	c := chance(47)
	for n := 1; n <= 64; n++ {
		l := make([]uint64, c.below(30))
		w := bitio.New()
		for i := range l {
			l[i] = c.inBits(n)
			wantErr(t, "Put", w.Put(l[i], n), api.OK)
		}
		s, e := bitio.Pack(l, n)
		if text, _ := w.Text(); s != text || e != api.OK {
			t.Fatalf("in %d bits: %x, %v; a writer has %x", n, s, e, text)
		}
	}
}
