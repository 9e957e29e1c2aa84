package sums_test

import (
	"hash/crc32"
	"math"
	"testing"

	"wattle/api"
	"wattle/sums"
)

// P3.1: the chapter's examples.
func TestExamples(t *testing.T) {
	wantSum(t, "no bytes", sums.Crc(""), 0)
	wantSum(t, "a", sums.Crc("a"), 0xc1d04330)
	wantSum(t, "the nine digits", sums.Crc("123456789"), 0xe3069283)
	wantSum(t, "the nine digits, gone on with", sums.On(sums.Crc("12345"), "6789"), 0xe3069283)
	wantJoin(t, sums.Crc("12345"), sums.Crc("6789"), 4, 0xe3069283)
	if got, e := sums.Join(0, 0, -1); got != 0 || e != api.ErrArg {
		t.Errorf("Join of -1 bytes: %08x, %v", got, e)
	}
	s := framed(t, 7, "")
	if s != "\x07\x00\x00\x00\x00"+modelWord(modelCrc("\x07\x00\x00\x00\x00")) {
		t.Errorf("a frame of nothing: %x", s)
	}
	wantFrame(t, framed(t, 7, "ab")+"x", 7, "ab", "x")
	wantNone(t, "nothing", "")
	if got, e := sums.Frame(0, noughts(sums.MaxPayload+1)); got != "" || e != api.ErrArg {
		t.Errorf("a frame of too much: %d bytes, %v", len(got), e)
	}
}

// P3.1: each byte, and each byte behind each other one.
func TestCrcOfOneAndTwoBytes(t *testing.T) {
	for a := range 256 {
		s := string([]byte{byte(a)})
		wantSum(t, "one byte", sums.Crc(s), modelCrc(s))
		for b := range 256 {
			s := string([]byte{byte(a), byte(b)})
			wantSum(t, "two bytes", sums.Crc(s), modelCrc(s))
		}
	}
}

// P3.1: texts of all lengths up to some, and great ones.
func TestCrcOfTexts(t *testing.T) {
	c := chance(5)
	for n := range 400 {
		s := c.text(n)
		wantSum(t, "a text", sums.Crc(s), modelCrc(s))
		wantSum(t, "bytes 00", sums.Crc(noughts(n)), modelCrc(noughts(n)))
	}
	for _, n := range []int{4095, 4096, 4097, 65535, 65536, 65537, 1 << 20} {
		s := c.text(n)
		wantSum(t, "a great text", sums.Crc(s), modelCrc(s))
	}
}

// P3.1: the checksum is that of the library, too.
func TestCrcIsTheLibrarys(t *testing.T) {
	c := chance(7)
	table := crc32.MakeTable(crc32.Castagnoli)
	for range 300 {
		s := c.text(c.below(300))
		wantSum(t, "a text", sums.Crc(s), crc32.Checksum([]byte(s), table))
		crc := c.word()
		wantSum(t, "gone on with", sums.On(crc, s), crc32.Update(crc, table, []byte(s)))
	}
}

// P3.1: On begins with any number, whether it is a checksum that was made or not.
func TestOn(t *testing.T) {
	c := chance(9)
	for _, crc := range words() {
		wantSum(t, hex(crc)+" and no bytes", sums.On(crc, ""), crc)
		for b := range 256 {
			s := string([]byte{byte(b)})
			wantSum(t, hex(crc)+" and a byte", sums.On(crc, s), modelOn(crc, s))
		}
		s := c.text(c.below(200))
		wantSum(t, hex(crc)+" and a text", sums.On(crc, s), modelOn(crc, s))
	}
}

// P3.1: Join of any numbers: the first one turned on by bytes 00, the second one laid over it.
func TestJoinOfAnyNumbers(t *testing.T) {
	c := chance(11)
	for _, a := range words() {
		for n := range 70 {
			b := c.word()
			wantJoin(t, a, b, n, modelJoin(a, b, n))
		}
	}
	for e := 7; e <= 16; e++ {
		for d := range 3 {
			a, b, n := c.word(), c.word(), 1<<e+d-1
			wantJoin(t, a, b, n, modelJoin(a, b, n))
		}
	}
	for range 10 {
		a, b, n := c.word(), c.word(), c.below(1<<17)
		wantJoin(t, a, b, n, modelJoin(a, b, n))
	}
}

// P3.1: Join by no bytes lays the numbers over one another; of noughts it tells what it lays over.
func TestJoinAtItsEnds(t *testing.T) {
	for _, a := range words() {
		wantJoin(t, a, 0, 0, a)
		wantJoin(t, a, 0x12345678, 0, a^0x12345678)
		wantJoin(t, 0, a, sums.MaxPayload, a)
	}
	const most = sums.MaxPayload
	for _, n := range []int{most - 1, most} {
		wantJoin(t, 0xdeadbeef, 0x12345678, n, modelJoin(0xdeadbeef, 0x12345678, n))
	}
}

// P3.1, R4: Join of a count out of its range tells nothing but that.
func TestJoinRefused(t *testing.T) {
	for _, n := range []int{-1, -2, -sums.MaxPayload, math.MinInt32, math.MinInt, sums.MaxPayload + 1, 2 * sums.MaxPayload, math.MaxInt32, math.MaxInt} {
		for _, v := range []uint32{0, 1, 0xffffffff} {
			if got, e := sums.Join(v, turned(v), n); got != 0 || e != api.ErrArg {
				t.Errorf("Join by %d: %08x, %v", n, got, e)
			}
		}
	}
}
