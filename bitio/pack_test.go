package bitio_test

import (
	"math"
	"slices"
	"strconv"
	"strings"
	"testing"

	"wattle/api"
	"wattle/bitio"
)

// rowOfAll is numbers in n bits each, one behind the other.
func rowOfAll(l []uint64, n int) string {
	var b strings.Builder
	for _, v := range l {
		b.WriteString(rowOfNumber(v, n))
	}
	return b.String()
}

// P1.3: the chapter's fourth example.
func TestPackExamples(t *testing.T) {
	s, e := bitio.Pack([]uint64{1, 2, 3}, 3)
	if s != "\x29\x80" || e != api.OK {
		t.Errorf("Pack: %x, %v", s, e)
	}
	if l, e := bitio.Unpack(s, 3, 3); e != api.OK || !slices.Equal(l, []uint64{1, 2, 3}) {
		t.Errorf("Unpack of three: %v, %v", l, e)
	}
	if l, e := bitio.Unpack(s, 3, 2); e != api.ErrForm || len(l) != 0 {
		t.Errorf("Unpack of two: %v, %v", l, e)
	}
	if s, e := bitio.Pack([]uint64{8}, 3); s != "" || e != api.ErrArg {
		t.Errorf("Pack of 8: %x, %v", s, e)
	}
}

// P1.3, P1.4: numbers of every width, there and back.
func TestPackWidths(t *testing.T) {
	c := chance(21)
	for n := 1; n <= 64; n++ {
		for count := range 20 {
			l := slices.Clone(edgeNumbers(n))
			for len(l) < count {
				l = append(l, c.inBits(n))
			}
			l = l[:count]
			what := strconv.Itoa(count) + " numbers in " + strconv.Itoa(n) + " bits"
			s, e := bitio.Pack(l, n)
			if e != api.OK || s != textOf(rowOfAll(l, n)) {
				t.Fatalf("Pack of %s: %x, %v", what, s, e)
			}
			back, e := bitio.Unpack(s, n, count)
			if e != api.OK || !slices.Equal(back, l) {
				t.Fatalf("Unpack of %s: %v, %v", what, back, e)
			}
		}
	}
}

// P1.3: widths that are none, numbers that are too great for theirs.
func TestPackRefused(t *testing.T) {
	for _, n := range []int{0, -1, -64, 65, 66, 1 << 32, math.MaxInt, math.MinInt} {
		for _, l := range [][]uint64{nil, {}, {0}, {1, 2}} {
			if s, e := bitio.Pack(l, n); s != "" || e != api.ErrArg {
				t.Errorf("Pack(%v, %d): %x, %v", l, n, s, e)
			}
		}
	}
	for n := 1; n < 64; n++ {
		for at := range 5 {
			for _, v := range []uint64{1 << n, 1<<n | 1, 1 << 63, math.MaxUint64} {
				l := make([]uint64, 5)
				l[at] = v
				if s, e := bitio.Pack(l, n); s != "" || e != api.ErrArg {
					t.Errorf("Pack(%v, %d): %x, %v", l, n, s, e)
				}
			}
		}
	}
}

// P1.3, R6: no numbers, as nil and as an empty list.
func TestPackNothing(t *testing.T) {
	for n := 1; n <= 64; n++ {
		for _, l := range [][]uint64{nil, {}} {
			if s, e := bitio.Pack(l, n); s != "" || e != api.OK {
				t.Errorf("Pack of none in %d: %x, %v", n, s, e)
			}
		}
		if l, e := bitio.Unpack("", n, 0); len(l) != 0 || e != api.OK {
			t.Errorf("Unpack of none in %d: %v, %v", n, l, e)
		}
		if l, e := bitio.Unpack("\x00", n, 0); len(l) != 0 || e != api.ErrForm {
			t.Errorf("Unpack of none of a byte in %d: %v, %v", n, l, e)
		}
	}
}

// P1.3, Limits: MaxBits bits are packed, not more.
func TestPackMost(t *testing.T) {
	for _, n := range []int{8, 13, 63, 64} {
		count := bitio.MaxBits / n
		l := make([]uint64, count+1)
		l[count-1] = 1
		if s, e := bitio.Pack(l, n); s != "" || e != api.ErrArg {
			t.Errorf("Pack of %d in %d: %d bytes, %v", count+1, n, len(s), e)
		}
		s, e := bitio.Pack(l[:count], n)
		if e != api.OK || len(s) != (count*n+7)/8 {
			t.Fatalf("Pack of %d in %d: %d bytes, %v", count, n, len(s), e)
		}
		back, e := bitio.Unpack(s, n, count)
		if e != api.OK || !slices.Equal(back, l[:count]) {
			t.Errorf("Unpack of %d in %d: %v", count, n, e)
		}
		more := strings.Repeat("\x00", ((count+1)*n+7)/8)
		if back, e := bitio.Unpack(more, n, count+1); len(back) != 0 || e != api.ErrForm {
			t.Errorf("Unpack of %d in %d: %d numbers, %v", count+1, n, len(back), e)
		}
	}
}

// P1.3: arguments that Unpack refuses, ahead of the form.
func TestUnpackRefused(t *testing.T) {
	for _, s := range []string{"", "\x00", "\x29\x80", "abc"} {
		for _, n := range []int{0, -1, -64, 65, 66, 1 << 32, math.MaxInt, math.MinInt} {
			for _, count := range []int{0, 1, 3, math.MaxInt, -1} {
				if l, e := bitio.Unpack(s, n, count); len(l) != 0 || e != api.ErrArg {
					t.Errorf("Unpack(%x, %d, %d): %v, %v", s, n, count, l, e)
				}
			}
		}
		for _, count := range []int{-1, -8, math.MinInt} {
			for _, n := range []int{1, 3, 8, 64} {
				if l, e := bitio.Unpack(s, n, count); len(l) != 0 || e != api.ErrArg {
					t.Errorf("Unpack(%x, %d, %d): %v, %v", s, n, count, l, e)
				}
			}
		}
	}
}

// P1.3: another number of bytes than Pack's, or a filling that is not all 0.
func TestUnpackForm(t *testing.T) {
	for n := 1; n <= 64; n++ {
		for count := range 10 {
			s, e := bitio.Pack(make([]uint64, count), n)
			wantErr(t, "Pack", e, api.OK)
			bad := []string{s + "\x00", s + "\x00\x00", s + "a"}
			if s != "" {
				bad = append(bad, s[1:], "")
			}
			for at := count * n; at < 8*len(s); at++ {
				row := []byte(rowOf(s))
				row[at] = '1'
				bad = append(bad, textOf(string(row)))
			}
			for _, x := range bad {
				if l, e := bitio.Unpack(x, n, count); len(l) != 0 || e != api.ErrForm {
					t.Fatalf("Unpack(%x, %d, %d): %v, %v", x, n, count, l, e)
				}
			}
		}
	}
}

// P1.3, R1: counts whose bits are more than an int tells.
func TestUnpackHugeCount(t *testing.T) {
	for _, n := range []int{1, 2, 7, 8, 32, 63, 64} {
		for _, count := range []int{bitio.MaxBits + 1, 1 << 32, 1 << 58, 1 << 60, 1 << 61, 1<<62 + 1, math.MaxInt/8 + 1, math.MaxInt} {
			for _, s := range []string{"", "\x00", strings.Repeat("\x00", 64)} {
				if l, e := bitio.Unpack(s, n, count); len(l) != 0 || e != api.ErrForm {
					t.Errorf("Unpack(%d bytes, %d, %d): %d numbers, %v", len(s), n, count, len(l), e)
				}
			}
		}
	}
}

// R3: Pack changes nothing of its list, and reads nothing behind its end.
func TestPackLeavesItsList(t *testing.T) {
	room := []uint64{1, 2, 3, math.MaxUint64, 9}
	s, e := bitio.Pack(room[:3], 2)
	if s != "\x6c" || e != api.OK || !slices.Equal(room, []uint64{1, 2, 3, math.MaxUint64, 9}) {
		t.Errorf("%x, %v; %v", s, e, room)
	}
}

// R2, R3: lists of two answers are apart, their spare room too.
func TestUnpackedApart(t *testing.T) {
	a, _ := bitio.Unpack("abc", 8, 3)
	b, _ := bitio.Unpack("abc", 8, 3)
	for i := range a[:cap(a)] {
		a[:cap(a)][i] = 7
	}
	again, e := bitio.Unpack("abc", 8, 3)
	want := []uint64{'a', 'b', 'c'}
	if e != api.OK || !slices.Equal(b, want) || !slices.Equal(again, want) {
		t.Errorf("%v, %v, %v", b, again, e)
	}
}
