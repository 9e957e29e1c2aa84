package journal_test

import (
	"math"
	"testing"

	"wattle/api"
	"wattle/blockdev"
	"wattle/journal"
)

// region is one that there may not be.
type region struct{ start, length int }

// noRegions are none of a device of 16 blocks.
func noRegions() []region {
	return []region{
		{0, 5}, {0, 0}, {0, -1}, {0, -6}, {3, 1}, {-1, 6}, {-1, 16}, {-6, 12}, {0, 17}, {1, 16}, {10, 7}, {11, 6}, {16, 6}, {17, 6}, {15, 0}, {16, 0},
		{math.MaxInt, 6}, {math.MaxInt - 5, 6}, {math.MinInt, 6}, {0, math.MaxInt}, {1, math.MaxInt}, {2, math.MaxInt - 1}, {0, math.MinInt}, {math.MaxInt, math.MaxInt}, {math.MinInt, math.MinInt}, {math.MinInt, math.MaxInt}, {1 << 32, 6}, {0, 1<<32 + 6},
	}
}

// down takes a device down.
func down(t *testing.T, d *blockdev.Device) {
	t.Helper()
	wantErr(t, "Pull", d.Pull(blockdev.Crash{Torn: -1}), api.OK)
}

// The table of errors: regions that are none of the device; nothing is written, and a region at either end is one.
func TestNoRegion(t *testing.T) {
	d, _ := formatted(t, 16, 1, 0, 6)
	image, calls := d.Image(), d.Calls()
	for _, r := range noRegions() {
		wantErr(t, "Format", journal.Format(d, r.start, r.length), api.ErrArg)
		wantNoOpen(t, d, r.start, r.length, api.ErrArg)
	}
	wantImage(t, "refused", d.Image(), image)
	if d.Calls() != calls {
		t.Errorf("%d calls were counted", d.Calls()-calls)
	}
	for _, r := range []region{{0, 6}, {0, 16}, {10, 6}, {9, 7}, {1, 15}} {
		wantErr(t, "Format", journal.Format(d, r.start, r.length), api.OK)
		opened(t, d, r.start, r.length, 0)
	}
}

// The table of errors, in its order: Format and Open.
func TestFormatAndOpenRefused(t *testing.T) {
	for _, r := range append(noRegions(), region{0, 6}) {
		wantErr(t, "Format of nil", journal.Format(nil, r.start, r.length), api.ErrNil)
		wantNoOpen(t, nil, r.start, r.length, api.ErrNil)
	}
	d := made(t, 16, 1)
	wantNoOpen(t, d, 0, 6, api.ErrCorrupt)
	wantNoOpen(t, d, 0, 5, api.ErrArg)
	down(t, d)
	image, calls := d.Image(), d.Calls()
	for _, r := range append(noRegions(), region{0, 6}) {
		wantErr(t, "Format, down", journal.Format(d, r.start, r.length), api.ErrDown)
		wantNoOpen(t, d, r.start, r.length, api.ErrDown)
	}
	wantImage(t, "refused", d.Image(), image)
	if d.Calls() != calls {
		t.Errorf("%d calls were counted", d.Calls()-calls)
	}
}

// The table of errors: a region without a head, and another region than the one that was formatted.
func TestNoHead(t *testing.T) {
	d, _ := formatted(t, 16, 2, 5, 6)
	calls, image := d.Calls(), d.Image()
	for _, r := range []region{{0, 6}, {6, 6}, {3, 6}, {10, 6}} {
		wantNoOpen(t, d, r.start, r.length, api.ErrCorrupt)
	}
	wantImage(t, "no head", d.Image(), image)
	if d.Calls() != calls {
		t.Errorf("%d calls were counted", d.Calls()-calls)
	}
	opened(t, d, 4, 6, 0) // its second head block is that region's first one
}

// R1, R4: of a nil journal.
func TestNilJournal(t *testing.T) {
	var j *journal.Journal
	if j.Most() != 0 || j.Used() != 0 || j.Number() != 0 {
		t.Errorf("Most %d, Used %d, Number %d", j.Most(), j.Used(), j.Number())
	}
	for _, l := range [][]journal.Write{nil, {}, {{0, ""}}, {{-1, "a"}, {-1, "a"}}} {
		wantErr(t, "Commit of nil", j.Commit(l), api.ErrNil)
	}
	wantErr(t, "Checkpoint of nil", j.Checkpoint(), api.ErrNil)
}

// R1: of objects that were made otherwise each call ends, and none panics.
func TestMadeOtherwise(t *testing.T) {
	j, d := &journal.Journal{}, &blockdev.Device{}
	j.Most()
	j.Used()
	j.Number()
	for _, l := range [][]journal.Write{nil, {{0, ""}}, writes("a", 512, 0, 1, 2), {{math.MinInt, ""}}} {
		j.Commit(l)
		j.Checkpoint()
		(&journal.Journal{}).Commit(l)
	}
	for _, r := range append(noRegions(), region{0, 6}) {
		journal.Format(d, r.start, r.length)
		journal.Open(d, r.start, r.length)
	}
}

// noWrites are lists of which no transaction may be made on a device of 16 blocks of 512 bytes with a region of 6 from 2 on.
func noWrites() [][]journal.Write {
	a := of("a", 512)
	l := [][]journal.Write{{{8, a}, {8, a}}, {{8, a}, {8, of("b", 512)}}, {{9, a}, {8, a}, {9, a}}, {{8, ""}}, {{8, "a"}}, {{8, a[1:]}}, {{8, a + "a"}}, {{8, a + a}}, {{9, a}, {8, "WJ"}}, {{9, ""}, {8, a}}}
	for _, n := range []int{2, 3, 4, 7, -1, -2, 16, 17, 18, 1 << 31, 1<<31 + 8, 1 << 32, 1<<32 + 8, math.MaxInt, math.MinInt} {
		l = append(l, []journal.Write{{n, a}}, []journal.Write{{8, a}, {n, a}}, []journal.Write{{n, a}, {8, a}})
	}
	full := many("a", 512, 8, 8)
	return append(l, append(full, journal.Write{Block: 8, Data: a}), append(full[:8:8], journal.Write{Block: 7, Data: a}), append(full[:8:8], journal.Write{Block: 0, Data: ""}))
}

// wantRefused fails if a Commit answers anything but that error, or changes anything.
func wantRefused(t *testing.T, d *blockdev.Device, j *journal.Journal, l []journal.Write, want api.Errno) {
	t.Helper()
	used, number, most, calls, reads, image, unflushed := j.Used(), j.Number(), j.Most(), d.Calls(), d.Reads(), d.Image(), d.Unflushed()
	wantErr(t, "Commit", j.Commit(l), want)
	wantTold(t, "refused", j, used, number)
	wantImage(t, "refused", d.Image(), image)
	if d.Calls() != calls || d.Unflushed() != unflushed || d.Reads() != reads || j.Most() != most {
		t.Fatalf("a refused Commit: %d counted calls, %d unflushed, Most %d", d.Calls()-calls, d.Unflushed(), j.Most())
	}
}

// The table of errors, in its order, P5.7: a Commit that is refused writes nothing, and the journal goes on; not even a checkpoint is made for it.
func TestCommitRefused(t *testing.T) {
	d, j := formatted(t, 16, 1, 2, 6)
	for i := range 3 {
		for _, l := range noWrites() {
			wantRefused(t, d, j, l, api.ErrArg)
		}
		for n := 3; n <= 8; n++ {
			wantRefused(t, d, j, many("n", 512, 8, n), api.ErrLog)
		}
		wantErr(t, "Commit", j.Commit(writes("a", 512, 0, 15)), api.OK)
		wantTold(t, "Commit", j, 4, uint64(i)+2)
	}
	down(t, d)
	for _, l := range noWrites() {
		wantRefused(t, d, j, l, api.ErrArg)
	}
	wantRefused(t, d, j, many("n", 512, 8, 3), api.ErrLog)
	restart(t, d)
	wantErr(t, "Commit", j.Commit(writes("b", 512, 1)), api.OK) // none of its calls has answered ErrDown
	down(t, d)
	wantRefused(t, d, j, writes("c", 512, 1), api.ErrDown)
	for _, l := range append(noWrites(), nil, writes("a", 512, 8), many("n", 512, 8, 3)) {
		wantRefused(t, d, j, l, api.ErrState)
	}
}

// The table of errors: a device that is down is told where nothing is to be done, too; a journal that has told it is at its end.
func TestDownWithNothingToDo(t *testing.T) {
	for _, first := range []func(j *journal.Journal) api.Errno{
		func(j *journal.Journal) api.Errno { return j.Commit(nil) },
		func(j *journal.Journal) api.Errno { return j.Commit([]journal.Write{}) },
		func(j *journal.Journal) api.Errno { return j.Commit(writes("a", 512, 8)) },
		func(j *journal.Journal) api.Errno { return j.Checkpoint() },
	} {
		for used := range 2 {
			d, j := formatted(t, 16, 1, 2, 6)
			for range used {
				wantErr(t, "Commit", j.Commit(writes("a", 512, 8)), api.OK)
			}
			down(t, d)
			wantErr(t, "down", first(j), api.ErrDown)
			wantDead(t, d, j, 3*used, uint64(used)+1)
			restart(t, d)
			wantDead(t, d, j, 3*used, uint64(used)+1)
			opened(t, d, 2, 6, used)
			wantDead(t, d, j, 3*used, uint64(used)+1)
		}
	}
}

// wantDead fails if a journal goes on that has answered ErrDown.
func wantDead(t *testing.T, d *blockdev.Device, j *journal.Journal, used int, number uint64) {
	t.Helper()
	calls, image := d.Calls(), d.Image()
	for range 2 {
		wantErr(t, "Checkpoint", j.Checkpoint(), api.ErrState)
		for _, l := range [][]journal.Write{nil, writes("z", 512, 8), {{3, ""}}, many("z", 512, 8, 3)} {
			wantErr(t, "Commit", j.Commit(l), api.ErrState)
		}
	}
	wantTold(t, "dead", j, used, number)
	wantImage(t, "dead", d.Image(), image)
	if d.Calls() != calls {
		t.Fatalf("a dead journal makes counted calls")
	}
}

// The table of errors, R4: a call at which the device goes down, at each of its counted calls, ends the journal; what it tells is as it was.
func TestGoneDown(t *testing.T) {
	a, b := writes("a", 512, 8), writes("b", 512, 9, 10)
	for _, lists := range [][][]journal.Write{{a}, {b}, {a, b}, {a, nil}, {b, a, nil}} {
		build, ops := played(t, 1, 6, lists...)
		for k := range len(ops) {
			d, call := build()
			wantErr(t, "Plan", d.Plan(k+1, blockdev.Crash{Torn: -1}), api.OK)
			wantErr(t, "the call", call(), api.ErrDown)
			wantErr(t, "the call again", call(), api.ErrState)
			restart(t, d)
			wantErr(t, "the call again", call(), api.ErrState)
		}
	}
	for k := 1; k <= 8; k++ {
		d, j := formatted(t, 16, 1, 2, 6)
		wantErr(t, "Commit", j.Commit(a), api.OK)
		wantErr(t, "Plan", d.Plan(k, blockdev.Crash{Torn: -1}), api.OK)
		wantErr(t, "Commit", j.Commit(b), api.ErrDown)
		wantDead(t, d, j, 3, 2)
	}
}
