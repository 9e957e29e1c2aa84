package sums_test

import (
	"testing"

	"wattle/api"
	"wattle/sums"
)

// P3.2: a frame's bytes, of each kind, and at the lengths at which a byte of its length becomes another one.
func TestFrame(t *testing.T) {
	c := chance(13)
	for kind := range 256 {
		for n := range 5 {
			s := c.text(n)
			if got := framed(t, uint8(kind), s); got != modelFrame(uint8(kind), s) {
				t.Fatalf("kind %d, %x: %x", kind, s, got)
			}
		}
	}
	for _, n := range []int{255, 256, 257, 511, 512, 65535, 65536, 65537, 1<<24 - 1, 1 << 24} {
		s := c.text(n)
		got := framed(t, uint8(n), s)
		if got != modelFrame(uint8(n), s) {
			t.Fatalf("%d bytes: %x", n, got[:sums.Head])
		}
		wantFrame(t, got, uint8(n), s, "")
	}
}

// P3.2: the limits are the chapter's.
func TestLimits(t *testing.T) {
	if sums.Head != 9 || sums.MaxPayload != 16777216 {
		t.Errorf("Head %d, MaxPayload %d", sums.Head, sums.MaxPayload)
	}
}

// P3.2, R4: a payload that is too long is in no frame.
func TestFrameRefused(t *testing.T) {
	for _, n := range []int{1<<24 + 1, 1<<24 + 2, 1 << 25} {
		if s, e := sums.Frame(9, noughts(n)); s != "" || e != api.ErrArg {
			t.Errorf("%d bytes: %d bytes, %v", n, len(s), e)
		}
	}
}

// P3.2: a frame that says more bytes than it may have is none, with the right checksum, too, and all its bytes there.
func TestUnframeOfTooLong(t *testing.T) {
	for _, n := range []int{1<<24 + 1, 1<<24 + 5} {
		wantNone(t, "too much", modelFrame(1, noughts(n)))
	}
	for _, length := range []uint32{1<<24 + 1, 1 << 25, 1 << 31, 1<<31 + 1, 1<<32 - 1} {
		wantNone(t, "a length above all", modelFrameOf(1, length, "abc"))
	}
}

// P3.2: a frame whose length is not that of what its checksum goes over is none.
func TestUnframeOfOtherLength(t *testing.T) {
	for n := range uint32(12) {
		if n != 6 {
			wantNone(t, "another length", modelFrameOf(3, n, "abcdef"))
			wantNone(t, "another length, and a rest", modelFrameOf(3, n, "abcdef")+"0123456789")
		}
	}
	wantFrame(t, modelFrameOf(3, 6, "abcdef"), 3, "abcdef", "")
}

// P3.2: bytes at whose front no frame stands.
func TestUnframeOfNone(t *testing.T) {
	for n := range 40 {
		wantNone(t, "bytes 00", noughts(n))
		ones := []byte(noughts(n))
		for i := range ones {
			ones[i] = 0xff
		}
		wantNone(t, "bytes FF", string(ones))
	}
	c := chance(15)
	for range 2000 {
		wantNone(t, "any bytes", c.text(c.below(60)))
	}
	wantNone(t, "a frame behind a byte", "x"+framed(t, 7, "ab"))
	wantNone(t, "a frame without its first byte", framed(t, 7, "ab")[1:])
}

// P3.2: of a frame the checksum is over the kind, the length and the payload, no less and no more.
func TestUnframeOfOtherSums(t *testing.T) {
	front := "\x05\x00\x00\x00\x03"
	for _, sum := range []uint32{0, 0xffffffff, modelCrc("abc"), modelCrc(front), modelCrc("abc" + front), modelCrc(front[1:] + "abc"), turned(modelCrc(front + "abc")), modelCrc(front + "abc\x00")} {
		wantNone(t, "another sum", front+modelWord(sum)+"abc")
		wantNone(t, "another sum, and a rest", front+modelWord(sum)+"abc\x00")
	}
	low := []byte(modelWord(modelCrc(front + "abc")))
	low[0], low[1], low[2], low[3] = low[3], low[2], low[1], low[0]
	wantNone(t, "the sum's lowest byte first", front+string(low)+"abc")
	wantFrame(t, front+modelWord(modelCrc(front+"abc"))+"abc", 5, "abc", "")
}
