package sums_test

import (
	"testing"

	"wattle/sums"
)

// P3.3: a text cut at each place: gone on with, and joined, it has its checksum.
func TestCutInTwo(t *testing.T) {
	c := chance(17)
	for _, n := range []int{0, 1, 2, 3, 64, 65, 300} {
		s := c.text(n)
		for at := range n + 1 {
			a, b := s[:at], s[at:]
			wantSum(t, "On", sums.On(sums.Crc(a), b), sums.Crc(s))
			wantJoin(t, sums.Crc(a), sums.Crc(b), len(b), sums.Crc(s))
		}
	}
}

// P3.3: so it is with great texts, up to the longest that Join takes.
func TestGreatTextsJoined(t *testing.T) {
	c := chance(19)
	s := c.text(300 + sums.MaxPayload)
	for _, n := range []int{512, 4096, 65535, 65536, 1 << 20, 3<<20 + 77, sums.MaxPayload - 1, sums.MaxPayload} {
		a, b := s[:300], s[300:300+n]
		whole := sums.Crc(s[:300+n])
		wantSum(t, "On", sums.On(sums.Crc(a), b), whole)
		wantJoin(t, sums.Crc(a), sums.Crc(b), n, whole)
	}
}

// P3.3: many pieces, one behind the other, in whatever order they are joined.
func TestCutInMany(t *testing.T) {
	c := chance(21)
	for range 100 {
		s := c.text(c.below(2000))
		on, joined, back, behind := uint32(0), uint32(0), uint32(0), 0
		for at := 0; at < len(s); {
			piece := s[at:min(len(s), at+c.below(100))]
			on = sums.On(on, piece)
			joined, _ = sums.Join(joined, sums.Crc(piece), len(piece))
			at += len(piece)
		}
		for at := len(s); at > 0; {
			piece := s[max(0, at-c.below(100)):at]
			back, _ = sums.Join(sums.Crc(piece), back, behind)
			behind += len(piece)
			at -= len(piece)
		}
		wantSum(t, "On", on, modelCrc(s))
		wantSum(t, "joined", joined, modelCrc(s))
		wantSum(t, "joined from behind", back, modelCrc(s))
	}
}

// rests are what may stand behind a frame.
func rests(t *testing.T, c *chance) []string {
	t.Helper()
	return []string{"", "x", noughts(1), noughts(30), c.text(50), framed(t, 1, ""), framed(t, 0, "ab") + "y"}
}

// P3.4: a frame with anything behind it tells what it was made of, and that.
func TestThereAndBack(t *testing.T) {
	c := chance(23)
	for kind := range 256 {
		payload := c.text(c.below(80))
		for _, rest := range rests(t, &c) {
			wantFrame(t, framed(t, uint8(kind), payload)+rest, uint8(kind), payload, rest)
		}
	}
	inner := framed(t, 2, framed(t, 3, "abc"))
	wantFrame(t, framed(t, 4, inner)+inner, 4, inner, inner)
}

// P3.4: frames one behind the other are told one by one.
func TestRowOfFrames(t *testing.T) {
	c := chance(25)
	var payloads []string
	all := ""
	for i := range 200 {
		payloads = append(payloads, c.text(c.below(40)))
		all += framed(t, uint8(i), payloads[i])
	}
	for i, want := range payloads {
		next := all[sums.Head+len(want):]
		wantFrame(t, all, uint8(i), want, next)
		all = next
	}
	wantNone(t, "what is behind the last one", all)
}

// P3.4: with a byte of the kind, the checksum or the payload turned to any other one it is no frame, whatever stands behind it.
func TestByteTurned(t *testing.T) {
	c := chance(27)
	for _, n := range []int{0, 1, 2, 17} {
		s := framed(t, uint8(c.next()), c.text(n))
		for _, rest := range rests(t, &c) {
			for at := range s {
				if at < 1 || at >= 5 {
					wantNoTurned(t, s, rest, at)
				}
			}
		}
	}
}

// wantNoTurned fails if a frame is one with the byte at that place turned.
func wantNoTurned(t *testing.T, s, rest string, at int) {
	t.Helper()
	text := []byte(s + rest)
	for d := 1; d < 256; d++ {
		text[at] = s[at] ^ byte(d)
		wantNone(t, "a frame with a byte turned", string(text))
	}
}

// P3.4: so it is in the longest one, at its ends and between.
func TestByteTurnedInTheLongest(t *testing.T) {
	c := chance(29)
	s := framed(t, 1, c.text(sums.MaxPayload))
	text := []byte(s)
	for _, at := range []int{0, 5, 8, 9, len(s) / 2, len(s) - 1} {
		text[at] ^= 1 << c.below(8)
		wantNone(t, "a frame with a byte turned", string(text))
		text[at] = s[at]
	}
	wantFrame(t, string(text), 1, s[sums.Head:], "")
}

// P3.4: a frame that is cut short is none.
func TestCutShort(t *testing.T) {
	c := chance(31)
	for _, n := range []int{0, 1, 9, 100, 1000} {
		s := framed(t, uint8(n), c.text(n))
		for k := range s {
			wantNone(t, "a frame cut short", s[:k])
		}
		wantFrame(t, s, uint8(n), s[sums.Head:], "")
	}
	bare := framed(t, 0, noughts(20))
	for k := range bare {
		wantNone(t, "a frame of noughts cut short", bare[:k])
	}
}

// R2: what a call answers does not hang on those ahead of it.
func TestCallsAlike(t *testing.T) {
	c := chance(33)
	first, s := sums.Crc("abc"), c.text(100)
	frame := framed(t, 6, s)
	for i := range 50 {
		sums.On(c.word(), c.text(i))
		sums.Join(c.word(), c.word(), c.below(1<<20))
		sums.Unframe(c.text(i))
		wantSum(t, "Crc", sums.Crc("abc"), first)
		wantJoin(t, 1, 2, 3, modelJoin(1, 2, 3))
		wantFrame(t, frame, 6, s, "")
	}
}
