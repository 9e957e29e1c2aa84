package journal_test

import (
	"slices"
	"strings"
	"testing"

	"wattle/api"
	"wattle/blockdev"
	"wattle/journal"
)

// crashes goes through all that may survive of so many writes in blocks of so many sectors: each choice of those that are kept, with none torn, and with each one torn in each of the parts that it may have.
func crashes(count, sectors int, try func(c blockdev.Crash)) {
	for choice := range 1 << count {
		c := blockdev.Crash{Torn: -1}
		for i := range count {
			if choice>>i&1 == 1 {
				c.Keep = append(c.Keep, i)
			}
		}
		try(c)
		for c.Torn = range count {
			if choice>>c.Torn&1 == 1 { // torn or kept: the other choice has the same torn
				continue
			}
			for mask := 1; mask < 1<<sectors-1; mask++ {
				c.Mask = uint8(mask)
				try(c)
			}
		}
	}
}

// outside is what the blocks have that are not the region's.
func outside(d *blockdev.Device, start, length int) string {
	return outsideOf(d.Image(), start, length)
}

func outsideOf(has []string, start, length int) string {
	return strings.Join(has[:start], "") + strings.Join(has[start+length:], "")
}

// walk goes through the states that a device may come to by Opens that go down.
type walk struct {
	start, length, sectors int
	seen                   map[string]string // of each state of the whole device, what all Opens of it must come to outside the region
	todo                   []*blockdev.Device
	count                  int // Opens that went down
}

// reach takes on a state that was reached, of which Open must make that.
func (w *walk) reach(t *testing.T, d *blockdev.Device, want string) {
	t.Helper()
	all := strings.Join(d.Image(), "")
	had, there := w.seen[all]
	if there && had != want {
		t.Fatalf("a state from which Open shall come to unlike things")
	}
	if !there {
		w.seen[all] = want
		w.todo = append(w.todo, d)
	}
}

// settles is what Open makes of a state, if it is not disturbed; once more it must do nothing again. How many counted calls it made, too.
func (w *walk) settles(t *testing.T, d *blockdev.Device) (string, int) {
	t.Helper()
	x := d.Twin()
	_, _, e := journal.Open(x, w.start, w.length)
	wantErr(t, "Open", e, api.OK)
	calls, image := x.Calls(), x.Image()
	opened(t, x, w.start, w.length, 0)
	if x.Calls() != calls {
		t.Fatalf("Open once more makes %d counted calls", x.Calls()-calls)
	}
	wantImage(t, "Open once more", x.Image(), image)
	return outside(x, w.start, w.length), calls - d.Calls()
}

// on goes on till no state is new: in each the Open goes down at each counted call, with all that may survive.
func (w *walk) on(t *testing.T) {
	t.Helper()
	for len(w.todo) > 0 {
		d := w.todo[0]
		w.todo = w.todo[1:]
		want := w.seen[strings.Join(d.Image(), "")]
		got, calls := w.settles(t, d)
		if got != want {
			t.Fatalf("behind Opens that went down Open comes to other things")
		}
		for k := 1; k <= calls; k++ {
			unflushed := 1 // the head's block, behind the first flush
			if k <= calls-2 {
				unflushed = min(k, calls-3)
			}
			crashes(unflushed, w.sectors, func(c blockdev.Crash) {
				x := d.Twin()
				wantErr(t, "Plan", x.Plan(k, c), api.OK)
				wantNoOpen(t, x, w.start, w.length, api.ErrDown)
				restart(t, x)
				w.count++
				w.reach(t, x, want)
			})
		}
	}
}

// wantWhole fails if, with the device going down at any counted call of the last list's call, with all that may survive, and again within each Open, anything but all of it or nothing of it is there.
func wantWhole(t *testing.T, sectors, length int, lists ...[]journal.Write) {
	t.Helper()
	build, ops := played(t, sectors, length, lists...)
	d, call := build()
	before := outside(d, 2, length)
	wantErr(t, "the call", call(), api.OK)
	after := outside(d, 2, length)
	w := &walk{2, length, sectors, map[string]string{}, nil, 0}
	outcomes := map[string]int{}
	reached := func(d *blockdev.Device, may ...string) {
		restart(t, d)
		got, _ := w.settles(t, d)
		if !slices.Contains(may, got) {
			t.Fatalf("the blocks are neither as they were nor as they shall be")
		}
		outcomes[got]++
		w.reach(t, d, got)
	}
	first, _ := build()
	for k := 1; k <= len(ops); k++ {
		crashes(pending(first.Unflushed(), ops, k), sectors, func(c blockdev.Crash) {
			x, call := build()
			wantErr(t, "Plan", x.Plan(k, c), api.OK)
			wantErr(t, "the call", call(), api.ErrDown)
			reached(x, before, after)
		})
	}
	crashes(d.Unflushed(), sectors, func(c blockdev.Crash) { // behind the call, which has answered OK
		x := d.Twin()
		wantErr(t, "Pull", x.Pull(c), api.OK)
		reached(x, after)
	})
	if outcomes[before] == 0 || outcomes[after] == 0 {
		t.Fatalf("it was never there, or always")
	}
	w.on(t)
}

// P5.5, P5.6: in the least region, of one and of two blocks (Most), behind nothing, behind another one, which a checkpoint must make room for, and behind two that wrote the same blocks.
func TestAllOrNone(t *testing.T) {
	for _, sectors := range []int{1, 2} {
		size := 512 * sectors
		a, b, c := writes("a", size, 8), writes("b", size, 8, 9), writes("c", size, 9, 10)
		wantWhole(t, sectors, 6, a)
		wantWhole(t, sectors, 6, b)
		wantWhole(t, sectors, 6, a, b)
		wantWhole(t, sectors, 6, b, c)
		wantWhole(t, sectors, 6, a, b, c)
	}
}

// P5.5, P5.6: in a ring that has room for two, round which it goes, and in blocks of three sectors.
func TestAllOrNoneRoundTheRing(t *testing.T) {
	a, b, c := writes("a", 1024, 12), writes("b", 1024, 12, 13), writes("c", 1024, 11, 12)
	wantWhole(t, 2, 9, a, b)
	wantWhole(t, 2, 9, a, nil, b, c)
	wantWhole(t, 2, 9, b, nil, a, c)
	wantWhole(t, 3, 8, writes("a", 1536, 12), writes("b", 1536, 12, 11))
}

// P5.5 to P5.7: with data that look like what a journal writes.
func TestAllOrNoneOfLikeness(t *testing.T) {
	lookAlikes := func(number uint64, blocks ...int) []journal.Write {
		l := writes("x", 1024, blocks...)
		for i, text := range []string{modelRecord(number, nil, 1024), modelDescriptor(number, []uint32{9}, 1024), modelHead(number, 0, number, 1024)} {
			if i < len(l) {
				l[i].Data = text
			}
		}
		return l
	}
	wantWhole(t, 2, 6, lookAlikes(1, 8, 9))
	wantWhole(t, 2, 6, lookAlikes(1, 8), lookAlikes(2, 8, 9))
	wantWhole(t, 2, 7, lookAlikes(2, 9, 10), lookAlikes(3, 9, 10), lookAlikes(4, 10, 9, 11))
}

// P5.4 to P5.6: a Checkpoint that goes down leaves what was committed.
func TestCheckpointGoesDown(t *testing.T) {
	for _, sectors := range []int{1, 2, 3} {
		size := 512 * sectors
		for _, lists := range [][][]journal.Write{{writes("a", size, 12)}, {writes("a", size, 12), writes("b", size, 12, 13)}, {writes("a", size, 12, 0), nil, writes("b", size, 12)}} {
			build, ops := played(t, sectors, 9, append(lists, nil)...)
			d, _ := build()
			want := outside(d, 2, 9)
			w := &walk{2, 9, sectors, map[string]string{}, nil, 0}
			for k := 1; k <= len(ops); k++ {
				crashes(pending(d.Unflushed(), ops, k), sectors, func(c blockdev.Crash) {
					x, call := build()
					wantErr(t, "Plan", x.Plan(k, c), api.OK)
					wantErr(t, "Checkpoint", call(), api.ErrDown)
					restart(t, x)
					w.reach(t, x, want)
				})
			}
			w.on(t)
		}
	}
}

// P5.5: behind a Commit that went down ahead of its record, of which all else survived, its number is taken again: by one of fewer, of as many and of more blocks, of which the device goes down again.
func TestNumberTakenAgain(t *testing.T) {
	l := [][]journal.Write{writes("b", 1024, 12), writes("WJC1", 1024, 13, 12), writes("d", 1024, 11, 12, 13)}
	for _, first := range l {
		for _, next := range l {
			d, j := formatted(t, 16, 2, 2, 8)
			record := len(first) + 3
			wantErr(t, "Plan", d.Plan(record, blockdev.Crash{Torn: 0, Mask: 2}), api.OK) // but for its first sector
			wantErr(t, "Commit", j.Commit(first), api.ErrDown)
			restart(t, d)
			before := outside(d, 2, 8)
			after := d.Twin()
			wantErr(t, "Commit", opened(t, after, 2, 8, 0).Commit(next), api.OK)
			ops := newOpened(t, d, 2, 8).commit(next)
			w := &walk{2, 8, 2, map[string]string{}, nil, 0}
			for k := 1; k <= len(ops); k++ {
				crashes(pending(0, ops, k), 2, func(c blockdev.Crash) {
					x := d.Twin()
					j := opened(t, x, 2, 8, 0)
					wantErr(t, "Plan", x.Plan(k, c), api.OK)
					wantErr(t, "Commit", j.Commit(next), api.ErrDown)
					restart(t, x)
					got, _ := w.settles(t, x)
					if got != before && got != outside(after, 2, 8) {
						t.Fatalf("%d blocks behind %d that were lost: neither all nor none", len(next), len(first))
					}
				})
			}
		}
	}
}

// newOpened is the model of a device whose journal was opened.
func newOpened(t *testing.T, d *blockdev.Device, start, length int) *model {
	t.Helper()
	m := newModel(d, start, length)
	_, _, e := m.open()
	wantErr(t, "the model's open", e, api.OK)
	return m
}

// P5.1: a Format that goes down touches no other block; behind it there is no head, or an empty journal, or what is left of the one that was there; and Format once more makes all new.
func TestFormatGoesDown(t *testing.T) {
	for _, sectors := range []int{1, 2} {
		build, _ := played(t, sectors, 6, writes("a", 512*sectors, 8), writes("b", 512*sectors, 8, 9), nil)
		d, _ := build()
		wantErr(t, "Flush", d.Flush(), api.OK)
		ops := newModel(d, 2, 6).format()
		want := outside(d, 2, 6)
		for k := 1; k <= len(ops); k++ {
			crashes(pending(0, ops, k), sectors, func(c blockdev.Crash) {
				x := d.Twin()
				wantErr(t, "Plan", x.Plan(k, c), api.OK)
				wantErr(t, "Format", journal.Format(x, 2, 6), api.ErrDown)
				restart(t, x)
				m := newModel(x, 2, 6)
				_, again, e := m.open()
				if e != api.OK {
					wantNoOpen(t, x, 2, 6, e)
				} else {
					opened(t, x, 2, 6, again)
				}
				if outside(x, 2, 6) != want {
					t.Fatalf("another block was touched")
				}
				wantErr(t, "Format", journal.Format(x, 2, 6), api.OK)
				wantTold(t, "formatted again", opened(t, x, 2, 6, 0), 0, 1)
			})
		}
	}
}

// P5.1: a Format that goes down behind its first flush leaves no head, or an empty journal.
func TestFormatGoesDownAtItsHead(t *testing.T) {
	for at, heads := range map[int][]api.Errno{7: {api.ErrCorrupt}, 8: {api.ErrCorrupt, api.OK}, 9: {api.ErrCorrupt, api.OK}} {
		for i, want := range heads {
			d, _ := formatted(t, 16, 2, 2, 6)
			c := blockdev.Crash{Torn: -1}
			if at == 7 {
				c.Keep = []int{0, 1, 2, 3, 4, 5}
			}
			if i == 1 {
				c.Torn, c.Mask = 0, 1
			}
			wantErr(t, "Plan", d.Plan(at, c), api.OK)
			wantErr(t, "Format", journal.Format(d, 2, 6), api.ErrDown)
			restart(t, d)
			if want == api.OK {
				wantTold(t, "the new journal", opened(t, d, 2, 6, 0), 0, 1)
			} else {
				wantNoOpen(t, d, 2, 6, want)
			}
		}
	}
}
