package blockdev_test

import (
	"math"
	"slices"
	"testing"

	"wattle/api"
	"wattle/blockdev"
)

// P4.2: what survives of three unflushed writes, two of one block, whichever are kept and whichever is torn, in each sector and in all of them.
func TestSurvivors(t *testing.T) {
	for kept := range 8 {
		for torn := -1; torn <= 3; torn++ {
			for mask := range 8 {
				d, m := made(t, 16, 3), newModel(16, 3)
				c := blockdev.Crash{Torn: torn, Mask: uint8(mask)}
				for i := range 3 {
					if kept>>i&1 == 1 {
						c.Keep = append(c.Keep, i)
					}
				}
				for _, s := range []step{
					{call: "Write", n: 4, data: of("xyz")},
					{call: "Flush"},
					{call: "Write", n: 4, data: of("abc")},
					{call: "Write", n: 15, data: of("def")},
					{call: "Write", n: 4, data: of("ghi")},
					{call: "Pull", crash: c},
				} {
					do(d, s)
					m.do(s)
				}
				wantSame(t, "down", d, m)
				wantErr(t, "Restart", d.Restart(), api.OK)
				wantImage(t, "up again", d, m.image())
			}
		}
	}
}

// P4.2: a torn write, in each of a block's sectors by itself.
func TestTornInEachSector(t *testing.T) {
	for sectors := 1; sectors <= 8; sectors++ {
		old, data := of("ABCDEFGH"[:sectors]), of("abcdefgh"[:sectors])
		for i := range 8 {
			d := made(t, 16, sectors)
			writes(t, d, 0, old)
			wantErr(t, "Flush", d.Flush(), api.OK)
			writes(t, d, 0, data)
			pulls(t, d, blockdev.Crash{Mask: 1 << i})
			want := old
			if i < sectors { // of the other bits there are no sectors
				want = old[:512*i] + data[512*i:512*i+512] + old[512*i+512:]
			}
			wantRead(t, d, 0, want)
		}
	}
}

// P4.2: a Mask of no sectors is nothing of the write, one of more than there are is all of it; whether Keep has it or not.
func TestMasks(t *testing.T) {
	for _, keep := range [][]int{nil, {0}, {0, 0}} {
		for _, x := range []struct {
			letters string
			mask    uint8
			want    string
		}{
			{"a", 0, "0"}, {"a", 1, "a"}, {"a", 2, "0"}, {"a", 0xfe, "0"}, {"a", 0xff, "a"},
			{"ab", 0, "00"}, {"ab", 1, "a0"}, {"ab", 2, "0b"}, {"ab", 3, "ab"}, {"ab", 0xfc, "00"}, {"ab", 0xfd, "a0"}, {"ab", 0xff, "ab"},
			{"abcdefgh", 0, "00000000"}, {"abcdefgh", 0x81, "a000000h"}, {"abcdefgh", 0x5a, "0b0de0g0"}, {"abcdefgh", 0xff, "abcdefgh"},
		} {
			d := made(t, 16, len(x.letters))
			writes(t, d, 9, of(x.letters))
			pulls(t, d, blockdev.Crash{Keep: keep, Torn: 0, Mask: x.mask})
			wantRead(t, d, 9, of(x.want))
		}
	}
}

// P4.2: writes are laid over one another in their order, however Keep has them; a torn one stands between those ahead of it and those behind it.
func TestOrderOfSurvivors(t *testing.T) {
	for _, x := range []struct {
		keep []int
		torn int
		want string
	}{
		{[]int{0, 1, 2}, -1, "cc"}, {[]int{2, 1, 0}, -1, "cc"}, {[]int{1, 0}, -1, "bb"}, {[]int{1, 1, 0, 0, 1}, -1, "bb"}, {[]int{0}, -1, "aa"}, {nil, -1, "00"},
		{[]int{0}, 1, "ba"}, {[]int{1, 0}, 1, "ba"}, {[]int{0, 2}, 1, "cc"}, {[]int{2}, 0, "cc"}, {[]int{0, 1}, 2, "cb"}, {nil, 2, "c0"}, {[]int{1}, 0, "bb"},
		{[]int{0, 1}, 3, "bb"}, {[]int{0, 1}, -2, "bb"}, {[]int{0, 1, 3, 4, -1}, math.MaxInt, "bb"}, {[]int{math.MinInt, 0, math.MaxInt, 1 << 32}, math.MinInt, "aa"},
		{[]int{3, -1, -3, 256, 1 << 33}, 1 << 32, "00"},
	} {
		d := made(t, 16, 2)
		for _, letters := range []string{"aa", "bb", "cc"} {
			writes(t, d, 2, of(letters))
		}
		pulls(t, d, blockdev.Crash{Keep: x.keep, Torn: x.torn, Mask: 1})
		wantRead(t, d, 2, of(x.want))
	}
}

// P4.2: the writes are numbered from 0 on behind each Flush, and behind each Restart.
func TestNumberedAnew(t *testing.T) {
	d := made(t, 16, 1)
	writes(t, d, 0, of("a"))
	writes(t, d, 1, of("b"))
	wantErr(t, "Flush", d.Flush(), api.OK)
	writes(t, d, 2, of("c"))
	writes(t, d, 3, of("d"))
	pulls(t, d, blockdev.Crash{Keep: []int{0}, Torn: -1})
	wantRead(t, d, 2, of("c"))
	wantRead(t, d, 3, of("0"))
	writes(t, d, 4, of("e"))
	writes(t, d, 5, of("f"))
	pulls(t, d, blockdev.Crash{Keep: []int{1}, Torn: -1})
	want := []string{"a", "b", "c", "0", "0", "f"}
	for n, letters := range want {
		wantRead(t, d, n, of(letters))
	}
}

// P4.2: what survived is safe: another crash leaves it.
func TestCrashedTwice(t *testing.T) {
	d := made(t, 16, 2)
	writes(t, d, 0, of("ab"))
	writes(t, d, 1, of("cd"))
	pulls(t, d, blockdev.Crash{Keep: []int{0}, Torn: 1, Mask: 2})
	for range 3 {
		pulls(t, d, none())
		wantRead(t, d, 0, of("ab"))
		wantRead(t, d, 1, of("0d"))
	}
}

// P4.2: it goes down at the call that was counted as the at-th, be it a Write or a Flush; reads, refused writes and the calls that are not counted do not bring it nearer.
func TestPlan(t *testing.T) {
	keep := blockdev.Crash{Keep: []int{0, 1, 2, 3, 4, 5, 6, 7, 8, 9}, Torn: -1}
	for at := 1; at <= 6; at++ {
		for _, flushes := range []int{1, 2, 3, 100} { // each so-many-th counted call is a Flush
			d := made(t, 16, 1)
			wantErr(t, "Plan", d.Plan(at, keep), api.OK)
			for i := 1; i <= at; i++ {
				wantRead(t, d, 0, of("0"))
				wantErr(t, "Write", d.Write(16, of("a")), api.ErrArg)
				wantErr(t, "Write", d.Write(1, "a"), api.ErrArg)
				wantErr(t, "Corrupt", d.Corrupt(15, 0, "z"), api.OK)
				wantErr(t, "Restart", d.Restart(), api.ErrDone)
				d.Image()
				d.Twin().Flush()
				want := api.OK
				if i == at {
					want = api.ErrDown
				}
				if i%flushes == 0 {
					wantErr(t, "Flush", d.Flush(), want)
				} else {
					wantErr(t, "Write", d.Write(i, of("a")), want)
				}
				if d.Down() != (i == at) || d.Calls() != i {
					t.Fatalf("planned for %d, behind %d: Down %v, Calls %d", at, i, d.Down(), d.Calls())
				}
			}
			wantErr(t, "Restart", d.Restart(), api.OK)
			for i := 1; i <= at; i++ {
				if i%flushes != 0 {
					wantRead(t, d, i, of("a"))
				}
			}
		}
	}
}

// P4.2: a Write that it goes down at is the last one of the unflushed writes: it is kept, torn or lost by its number.
func TestDownAtWrite(t *testing.T) {
	for _, x := range []struct {
		c    blockdev.Crash
		want string
	}{
		{blockdev.Crash{Keep: []int{0}, Torn: -1}, "00"},
		{blockdev.Crash{Keep: []int{1}, Torn: -1}, "cd"},
		{blockdev.Crash{Torn: 1, Mask: 1}, "c0"},
		{blockdev.Crash{Torn: 1, Mask: 2}, "0d"},
		{blockdev.Crash{Keep: []int{1}, Torn: 1}, "00"},
		{blockdev.Crash{Keep: []int{2}, Torn: 2, Mask: 3}, "00"},
	} {
		d := made(t, 16, 2)
		wantErr(t, "Plan", d.Plan(2, x.c), api.OK)
		writes(t, d, 0, of("ab"))
		wantErr(t, "Write", d.Write(1, of("cd")), api.ErrDown)
		if d.Calls() != 2 || d.Unflushed() != 0 || !d.Down() {
			t.Fatalf("Calls %d, Unflushed %d, Down %v", d.Calls(), d.Unflushed(), d.Down())
		}
		wantErr(t, "Restart", d.Restart(), api.OK)
		wantRead(t, d, 1, of(x.want))
	}
}

// P4.2: a plan that falls on a Flush: it has not happened.
func TestDownAtFlush(t *testing.T) {
	for _, x := range []struct {
		c         blockdev.Crash
		one, next string
	}{
		{none(), "00", "00"},
		{blockdev.Crash{Keep: []int{1}, Torn: 0, Mask: 1}, "a0", "cd"},
		{blockdev.Crash{Keep: []int{0, 1}, Torn: -1}, "ab", "cd"},
		{blockdev.Crash{Keep: []int{0, 1}, Torn: 2, Mask: 3}, "ab", "cd"},
	} {
		d := made(t, 16, 2)
		writes(t, d, 0, of("ab"))
		writes(t, d, 1, of("cd"))
		wantErr(t, "Plan", d.Plan(1, x.c), api.OK)
		wantErr(t, "Flush", d.Flush(), api.ErrDown)
		if d.Calls() != 3 || d.Unflushed() != 0 || !d.Down() {
			t.Fatalf("Calls %d, Unflushed %d, Down %v", d.Calls(), d.Unflushed(), d.Down())
		}
		wantErr(t, "Restart", d.Restart(), api.OK)
		wantRead(t, d, 0, of(x.one))
		wantRead(t, d, 1, of(x.next))
	}
}

// P4.2: a plan made anew takes the place of the one ahead of it, sooner or later; 0 takes it back; a refused one leaves it.
func TestPlannedAnew(t *testing.T) {
	d := made(t, 16, 1)
	wantErr(t, "Plan", d.Plan(1, none()), api.OK)
	wantErr(t, "Plan", d.Plan(3, blockdev.Crash{Keep: []int{2}, Torn: -1}), api.OK)
	writes(t, d, 0, of("a"))
	writes(t, d, 1, of("b"))
	wantErr(t, "a refused Plan", d.Plan(-1, none()), api.ErrArg)
	wantErr(t, "Write", d.Write(2, of("c")), api.ErrDown)
	wantErr(t, "Restart", d.Restart(), api.OK)
	wantRead(t, d, 0, of("0"))
	wantRead(t, d, 2, of("c"))
	wantErr(t, "Plan", d.Plan(5, none()), api.OK)
	writes(t, d, 3, of("d"))
	wantErr(t, "Plan", d.Plan(1, blockdev.Crash{Keep: []int{0}, Torn: -1}), api.OK)
	wantErr(t, "Flush", d.Flush(), api.ErrDown)
	wantErr(t, "Restart", d.Restart(), api.OK)
	wantRead(t, d, 3, of("d"))
	wantErr(t, "Plan", d.Plan(1, none()), api.OK)
	wantErr(t, "Plan", d.Plan(0, blockdev.Crash{Keep: []int{0}}), api.OK)
	for range 20 {
		writes(t, d, 4, of("e"))
		wantErr(t, "Flush", d.Flush(), api.OK)
	}
	wantErr(t, "Plan", d.Plan(math.MaxInt, none()), api.OK)
	for range 20 {
		writes(t, d, 5, of("f"))
	}
	wantErr(t, "Flush", d.Flush(), api.OK)
}

// P4.2: a plan is for one crash; behind any Restart nothing is planned.
func TestNothingPlannedBehindRestart(t *testing.T) {
	d := made(t, 16, 1)
	wantErr(t, "Plan", d.Plan(1, none()), api.OK)
	wantErr(t, "Flush", d.Flush(), api.ErrDown)
	wantErr(t, "Restart", d.Restart(), api.OK)
	for range 5 {
		wantErr(t, "Flush", d.Flush(), api.OK)
	}
	wantErr(t, "Plan", d.Plan(2, none()), api.OK)
	writes(t, d, 0, of("a"))
	pulls(t, d, none())
	for range 5 {
		writes(t, d, 0, of("b"))
		wantErr(t, "Flush", d.Flush(), api.OK)
	}
	wantRead(t, d, 0, of("b"))
}

// R3: a crash's numbers are not read behind their end, not changed and not kept, whether it was planned or pulled.
func TestKeepIsTheCallers(t *testing.T) {
	for _, pulled := range []bool{true, false} {
		d := made(t, 16, 1)
		room := []int{2, 0, 1, 3, 3}
		c := blockdev.Crash{Keep: room[:2], Torn: -1}
		if pulled {
			for n := range 4 {
				writes(t, d, n, of("a"))
			}
			wantErr(t, "Pull", d.Pull(c), api.OK)
		} else {
			wantErr(t, "Plan", d.Plan(4, c), api.OK)
			if !slices.Equal(room, []int{2, 0, 1, 3, 3}) {
				t.Fatalf("the numbers are %v", room)
			}
			room[0], room[1] = 3, 1
			for n := range 3 {
				writes(t, d, n, of("a"))
			}
			wantErr(t, "Write", d.Write(3, of("a")), api.ErrDown)
			room[0], room[1] = 2, 0
		}
		if !slices.Equal(room, []int{2, 0, 1, 3, 3}) {
			t.Fatalf("the numbers are %v", room)
		}
		wantErr(t, "Restart", d.Restart(), api.OK)
		for n, letters := range []string{"a", "0", "a", "0"} {
			wantRead(t, d, n, of(letters))
		}
	}
}
