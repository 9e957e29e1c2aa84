package codes_test

import (
	"strings"
	"testing"

	"wattle/api"
	"wattle/bitio"
	"wattle/codes"
)

// item is a number and its code.
type item struct {
	c codes.Code
	v uint64
}

// items are some in any codes.
func (c *chance) items(count int) []item {
	all := allCodes()
	l := make([]item, count)
	for i := range l {
		code := all[c.below(len(all))]
		l[i] = item{code, c.of(code)}
	}
	return l
}

// P2.4: numbers one behind the other, each in any code, are read again; each has Len bits.
func TestThereAndBack(t *testing.T) {
	c := chance(21)
	for count := range 60 {
		l := c.items(count)
		w := bitio.New()
		for _, x := range l {
			before := w.Len()
			wantErr(t, name(x.c, x.v), codes.Put(w, x.c, x.v), api.OK)
			if n, e := x.c.Len(x.v); n != w.Len()-before || e != api.OK {
				t.Fatalf("%s: Len %d, %v; it has %d bits", name(x.c, x.v), n, e, w.Len()-before)
			}
		}
		s, _ := w.Text()
		r := bitio.Open(s)
		for _, x := range l {
			if v, e := codes.Read(r, x.c); v != x.v || e != api.OK {
				t.Fatalf("%s: read as %d, %v", name(x.c, x.v), v, e)
			}
		}
		if r.At() != w.Len() {
			t.Fatalf("read up to %d of %d bits", r.At(), w.Len())
		}
	}
}

// P2.4: whatever is read, of any bits, is put as the bits that were taken; what is none leaves the place.
func TestAnyBits(t *testing.T) {
	c := chance(23)
	for _, code := range allCodes() {
		for range 60 {
			text := make([]byte, c.below(24))
			for i := range text {
				text[i] = byte(c.next()>>20) & byte(c.next()>>33) & byte(c.next()>>c.below(40))
			}
			row := rowOf(string(text))
			r := bitio.Open(string(text))
			for {
				at := r.At()
				v, e := codes.Read(r, code)
				if e != api.OK {
					if e != api.ErrForm || v != 0 || r.At() != at {
						t.Fatalf("%s: %v at %d, then at %d", name(code, v), e, at, r.At())
					}
					break
				}
				if v > code.Most() || row[at:r.At()] != rowIn(code, v) {
					t.Fatalf("%s: told of %s", name(code, v), row[at:r.At()])
				}
				w := bitio.New()
				wantErr(t, name(code, v), codes.Put(w, code, v), api.OK)
				wantRow(t, name(code, v), w, row[at:r.At()])
				if r.At() == at { // K = 1 takes no bits, and could be read for ever
					break
				}
			}
		}
	}
}

// P2.4: no form is the beginning of another one of its code, and no two are the same.
func TestNoFormBeginsAnother(t *testing.T) {
	for _, c := range allCodes() {
		var l []string
		for v := uint64(0); v <= min(mostOf(c), 150); v++ {
			w := bitio.New()
			wantErr(t, name(c, v), codes.Put(w, c, v), api.OK)
			s, _ := w.Text()
			l = append(l, rowOf(s)[:w.Len()])
		}
		for i, a := range l {
			for j, b := range l {
				if i != j && strings.HasPrefix(b, a) {
					t.Fatalf("the form of %s, %s, begins that of %d, %s", name(c, uint64(i)), a, j, b)
				}
			}
		}
	}
}

// P2.4: Minimal leaves no bits unused: each row of as many bits as its longest form is read.
func TestMinimalIsFull(t *testing.T) {
	for k := uint64(1); k <= 70; k++ {
		c := codes.Code{Kind: codes.Minimal, K: k}
		seen := map[uint64]bool{}
		longest, _ := c.Len(k - 1)
		for bits := uint64(0); bits>>longest == 0; bits++ {
			v, e := codes.Read(opened(t, rowOfNumber(bits, longest)), c)
			if v >= k || e != api.OK {
				t.Fatalf("K %d: %d, %v", k, v, e)
			}
			seen[v] = true
		}
		if len(seen) != int(k) {
			t.Errorf("K %d: %d numbers were read", k, len(seen))
		}
	}
}

// P2.5: Zeta with K = 1 is Gamma, written, counted and read.
func TestZetaOneIsGamma(t *testing.T) {
	zeta, gamma := codes.Code{Kind: codes.Zeta, K: 1}, codes.Code{Kind: codes.Gamma}
	for _, v := range someOf(gamma) {
		w := bitio.New()
		wantErr(t, name(zeta, v), codes.Put(w, zeta, v), api.OK)
		wantRow(t, name(zeta, v), w, gammaRow(v))
		a, _ := zeta.Len(v)
		if b, _ := gamma.Len(v); a != b {
			t.Errorf("%d: Len %d and %d", v, a, b)
		}
	}
	c := chance(29)
	for range 2000 {
		w := bitio.New()
		w.Put(c.next()>>c.below(64), 64)
		w.Put(c.next(), 64)
		s, _ := w.Text()
		a, b := bitio.Open(s), bitio.Open(s)
		v, e := codes.Read(a, zeta)
		if u, f := codes.Read(b, gamma); u != v || e != f || a.At() != b.At() {
			t.Fatalf("%x: %d, %v, at %d; Gamma: %d, %v, at %d", s, v, e, a.At(), u, f, b.At())
		}
	}
}

// R2: what is written and read hangs on the one writer or reader alone.
func TestApart(t *testing.T) {
	gamma, delta := codes.Code{Kind: codes.Gamma}, codes.Code{Kind: codes.Delta}
	a, b := bitio.New(), bitio.New()
	for v := range uint64(20) {
		wantErr(t, "Put", codes.Put(a, gamma, v), api.OK)
		wantErr(t, "Put", codes.Put(b, delta, v), api.OK)
	}
	s, _ := a.Text()
	u, _ := b.Text()
	ra, rb := bitio.Open(s), bitio.Open(u)
	for want := range uint64(20) {
		if v, e := codes.Read(ra, gamma); v != want || e != api.OK {
			t.Errorf("Gamma %d: %d, %v", want, v, e)
		}
		if v, e := codes.Read(rb, delta); v != want || e != api.OK {
			t.Errorf("Delta %d: %d, %v", want, v, e)
		}
	}
}
