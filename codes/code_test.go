package codes_test

import (
	"math"
	"testing"

	"wattle/api"
	"wattle/codes"
)

// Words: the limits and the kinds' numbers.
func TestConstants(t *testing.T) {
	if codes.MaxValue != 281474976710654 || codes.MaxUnary != 65535 || codes.MaxZeta != 16 {
		t.Errorf("the limits: %d, %d, %d", uint64(codes.MaxValue), codes.MaxUnary, codes.MaxZeta)
	}
	kinds := []uint8{codes.Unary, codes.Gamma, codes.Delta, codes.Zeta, codes.Minimal}
	for i, kind := range kinds {
		if int(kind) != i {
			t.Errorf("the kind %d has the number %d", i, kind)
		}
	}
}

// P2.1: which codes may be, by kind and number.
func TestCheck(t *testing.T) {
	for _, c := range allCodes() {
		wantErr(t, name(c, 0), c.Check(), api.OK)
	}
	for _, c := range badCodes() {
		wantErr(t, name(c, 0), c.Check(), api.ErrArg)
	}
}

// P2.1: the greatest number; 0 of a code that may not be.
func TestMost(t *testing.T) {
	for _, x := range []struct {
		c    codes.Code
		want uint64
	}{
		{codes.Code{}, 65535},
		{codes.Code{Kind: codes.Gamma}, 1<<48 - 2},
		{codes.Code{Kind: codes.Delta}, 1<<48 - 2},
		{codes.Code{Kind: codes.Zeta, K: 1}, 1<<48 - 2},
		{codes.Code{Kind: codes.Zeta, K: 16}, 1<<48 - 2},
		{codes.Code{Kind: codes.Minimal, K: 1}, 0},
		{codes.Code{Kind: codes.Minimal, K: 2}, 1},
		{codes.Code{Kind: codes.Minimal, K: 5}, 4},
		{codes.Code{Kind: codes.Minimal, K: 1<<48 - 1}, 1<<48 - 2},
	} {
		if got := x.c.Most(); got != x.want {
			t.Errorf("%s: Most %d, want %d", name(x.c, 0), got, x.want)
		}
	}
	for _, c := range allCodes() {
		if got := c.Most(); got != mostOf(c) {
			t.Errorf("%s: Most %d, want %d", name(c, 0), got, mostOf(c))
		}
	}
	for _, c := range badCodes() {
		if got := c.Most(); got != 0 {
			t.Errorf("%s: Most %d of a code that may not be", name(c, 0), got)
		}
	}
}

// P2.1: how many bits there are, of the first and the last numbers and of those where the bits grow.
func TestLen(t *testing.T) {
	for _, c := range allCodes() {
		for _, v := range someOf(c) {
			n, e := c.Len(v)
			wantErr(t, name(c, v), e, api.OK)
			if n != len(rowIn(c, v)) {
				t.Errorf("%s: Len %d, want %d", name(c, v), n, len(rowIn(c, v)))
			}
		}
	}
}

// P2.1: some lengths by themselves, at the greatest numbers.
func TestLenAtEdges(t *testing.T) {
	for _, x := range []struct {
		c    codes.Code
		v    uint64
		want int
	}{
		{codes.Code{}, 0, 1},
		{codes.Code{}, 65535, 65536},
		{codes.Code{Kind: codes.Gamma}, 1<<48 - 2, 95},
		{codes.Code{Kind: codes.Delta}, 1<<48 - 2, 58},
		{codes.Code{Kind: codes.Zeta, K: 1}, 1<<48 - 2, 95},
		{codes.Code{Kind: codes.Zeta, K: 3}, 1<<48 - 2, 64},
		{codes.Code{Kind: codes.Zeta, K: 5}, 1<<48 - 2, 60},
		{codes.Code{Kind: codes.Zeta, K: 13}, 1<<48 - 2, 56},
		{codes.Code{Kind: codes.Zeta, K: 16}, 1<<48 - 2, 51},
		{codes.Code{Kind: codes.Zeta, K: 16}, 0, 16},
		{codes.Code{Kind: codes.Minimal, K: 1}, 0, 0},
		{codes.Code{Kind: codes.Minimal, K: 1<<48 - 1}, 0, 47},
		{codes.Code{Kind: codes.Minimal, K: 1<<48 - 1}, 1, 48},
		{codes.Code{Kind: codes.Minimal, K: 1<<48 - 1}, 1<<48 - 2, 48},
	} {
		if n, e := x.c.Len(x.v); n != x.want || e != api.OK {
			t.Errorf("%s: Len %d, %v; want %d", name(x.c, x.v), n, e, x.want)
		}
	}
}

// above are numbers that a code does not code.
func above(c codes.Code) []uint64 {
	most := mostOf(c)
	return []uint64{most + 1, most + 2, 2*most + 2, 1<<48 - 1, 1 << 48, 1 << 63, math.MaxUint64 - 1, math.MaxUint64}
}

// P2.1, R4: a number above Most, and a code that may not be, have no length.
func TestLenRefused(t *testing.T) {
	for _, c := range allCodes() {
		for _, v := range above(c) {
			if n, e := c.Len(v); n != 0 || e != api.ErrArg {
				t.Errorf("%s: Len %d, %v", name(c, v), n, e)
			}
		}
	}
	for _, c := range badCodes() {
		for _, v := range []uint64{0, 1, 1 << 48, math.MaxUint64} {
			if n, e := c.Len(v); n != 0 || e != api.ErrArg {
				t.Errorf("%s: Len %d, %v", name(c, v), n, e)
			}
		}
	}
}

// P2.5: greater numbers do not have fewer bits.
func TestLenDoesNotFall(t *testing.T) {
	for _, c := range allCodes() {
		least := 0
		for _, v := range someOf(c) {
			n, _ := c.Len(v)
			if n < least {
				t.Errorf("%s: Len %d, but %d below it", name(c, v), n, least)
			}
			least = n
		}
		least = 0
		for v := uint64(0); v <= min(mostOf(c), 3000); v++ {
			n, _ := c.Len(v)
			if n < least {
				t.Errorf("%s: Len %d, but %d below it", name(c, v), n, least)
			}
			least = n
		}
	}
}

// zigs are numbers and their Zigs at the edges.
var zigs = []struct {
	x int64
	u uint64
}{
	{0, 0}, {-1, 1}, {1, 2}, {-2, 3}, {2, 4}, {-3, 5}, {1000, 2000}, {-1000, 1999},
	{1 << 32, 1 << 33}, {-1 << 32, 1<<33 - 1},
	{1 << 62, 1 << 63}, {-1 << 62, 1<<63 - 1}, {-1<<62 - 1, 1<<63 + 1},
	{math.MaxInt64, math.MaxUint64 - 1}, {math.MaxInt64 - 1, math.MaxUint64 - 3},
	{math.MinInt64, math.MaxUint64}, {math.MinInt64 + 1, math.MaxUint64 - 2},
}

// P2.3: Zig and Zag, at the edges too.
func TestZigZag(t *testing.T) {
	for _, p := range zigs {
		if u := codes.Zig(p.x); u != p.u {
			t.Errorf("Zig(%d): %d, want %d", p.x, u, p.u)
		}
		if x := codes.Zag(p.u); x != p.x {
			t.Errorf("Zag(%d): %d, want %d", p.u, x, p.x)
		}
	}
}

// P2.5: Zag of Zig is the number, Zig of Zag too.
func TestZigThereAndBack(t *testing.T) {
	try := func(u uint64) {
		if x := int64(u); codes.Zag(codes.Zig(x)) != x {
			t.Errorf("Zag of Zig of %d: %d", x, codes.Zag(codes.Zig(x)))
		}
		if codes.Zig(codes.Zag(u)) != u {
			t.Errorf("Zig of Zag of %d: %d", u, codes.Zig(codes.Zag(u)))
		}
	}
	c := chance(3)
	for i := range uint64(5000) {
		try(i)
		try(-i)
		try(c.next() >> c.below(64))
		try(1<<63 + i - 2500)
	}
}

// P2.5: numbers nearer to 0 have lesser Zigs.
func TestZigsOfNearerNumbers(t *testing.T) {
	size := func(x int64) uint64 {
		if x < 0 {
			return -uint64(x)
		}
		return uint64(x)
	}
	for _, a := range zigs {
		for _, b := range zigs {
			if size(a.x) < size(b.x) && codes.Zig(a.x) >= codes.Zig(b.x) {
				t.Errorf("Zig(%d) is %d, Zig(%d) is %d", a.x, codes.Zig(a.x), b.x, codes.Zig(b.x))
			}
		}
	}
	for x := int64(0); x < 300; x++ {
		for _, near := range []int64{x, -x} {
			for _, far := range []int64{x + 1, -x - 1} {
				if codes.Zig(near) >= codes.Zig(far) {
					t.Errorf("Zig(%d) is %d, Zig(%d) is %d", near, codes.Zig(near), far, codes.Zig(far))
				}
			}
		}
	}
}
