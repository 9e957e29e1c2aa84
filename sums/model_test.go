package sums_test

import (
	"strconv"
	"testing"

	"wattle/api"
	"wattle/sums"
)

// The plain model: the chapter's steps, a bit at a time, with numbers halved and doubled.

// modelSteps are the steps of a checksum, without the turnings at both ends.
func modelSteps(sum uint32, s string) uint32 {
	for i := 0; i < len(s); i++ {
		sum ^= uint32(s[i])
		for range 8 {
			out := sum % 2
			sum /= 2
			if out == 1 {
				sum ^= 0x82f63b78
			}
		}
	}
	return sum
}

// turned is a number with all of its 32 bits turned.
func turned(v uint32) uint32 { return 0xffffffff - v }

func modelCrc(s string) uint32 { return turned(modelSteps(0xffffffff, s)) }

func modelOn(crc uint32, s string) uint32 { return turned(modelSteps(turned(crc), s)) }

func modelJoin(a, b uint32, n int) uint32 { return modelSteps(a, noughts(n)) ^ b }

// modelWord is a number in 4 bytes, the highest first.
func modelWord(v uint32) string {
	text := make([]byte, 4)
	for i := 3; i >= 0; i-- {
		text[i] = byte(v % 256)
		v /= 256
	}
	return string(text)
}

// modelFrameOf is what a frame of that length field would be, whether it may be or not.
func modelFrameOf(kind uint8, length uint32, payload string) string {
	front := string([]byte{kind}) + modelWord(length)
	return front + modelWord(modelCrc(front+payload)) + payload
}

func modelFrame(kind uint8, payload string) string {
	return modelFrameOf(kind, uint32(len(payload)), payload)
}

// noughts are n bytes 00.
func noughts(n int) string { return string(make([]byte, n)) }

// chance gives the same numbers at each run.
type chance uint64

func (c *chance) next() uint64 {
	*c ^= *c << 13
	*c ^= *c >> 7
	*c ^= *c << 17
	return uint64(*c)
}

func (c *chance) below(n int) int { return int(c.next() >> 8 % uint64(n)) }

// word is any number of 32 bits.
func (c *chance) word() uint32 { return uint32(c.next() >> 16) }

// text is n bytes, any ones.
func (c *chance) text(n int) string {
	text := make([]byte, n)
	for i := range text {
		text[i] = byte(c.next() >> 24)
	}
	return string(text)
}

// words are numbers of 32 bits: the ends, each bit by itself, and any ones.
func words() []uint32 {
	l := []uint32{0, 0xffffffff, 0x82f63b78, 0x7fffffff}
	for i := range 32 {
		l = append(l, 1<<i)
	}
	c := chance(3)
	for range 20 {
		l = append(l, c.word())
	}
	return l
}

// hex tells a number.
func hex(v uint32) string { return strconv.FormatUint(uint64(v), 16) }

// wantSum fails if the checksum is another one.
func wantSum(t *testing.T, what string, got, want uint32) {
	t.Helper()
	if got != want {
		t.Fatalf("%s: %08x, want %08x", what, got, want)
	}
}

// wantJoin fails if Join tells another number, or none.
func wantJoin(t *testing.T, a, b uint32, n int, want uint32) {
	t.Helper()
	got, e := sums.Join(a, b, n)
	if got != want || e != api.OK {
		t.Fatalf("Join(%08x, %08x, %d): %08x, %v, want %08x", a, b, n, got, e, want)
	}
}

// framed is the frame, which may be.
func framed(t *testing.T, kind uint8, payload string) string {
	t.Helper()
	s, e := sums.Frame(kind, payload)
	if e != api.OK {
		t.Fatalf("Frame of %d, %d bytes: %v", kind, len(payload), e)
	}
	return s
}

// wantFrame fails if Unframe tells other things.
func wantFrame(t *testing.T, s string, kind uint8, payload, rest string) {
	t.Helper()
	k, p, r, e := sums.Unframe(s)
	if k != kind || p != payload || r != rest || e != api.OK {
		t.Fatalf("Unframe of %d bytes: kind %d, payload %d bytes, rest %d bytes, %v; want %d, %d, %d", len(s), k, len(p), len(r), e, kind, len(payload), len(rest))
	}
}

// wantNone fails if a frame is told, or anything beside the error.
func wantNone(t *testing.T, what, s string) {
	t.Helper()
	if k, p, r, e := sums.Unframe(s); k != 0 || p != "" || r != "" || e != api.ErrForm {
		t.Fatalf("Unframe of %s: kind %d, payload %d bytes, rest %d bytes, %v", what, k, len(p), len(r), e)
	}
}
