package journal_test

import (
	"testing"

	"wattle/api"
	"wattle/blockdev"
	"wattle/journal"
)

// scene makes a device and the call that shall be looked at, the same ones each time.
type scene func() (*blockdev.Device, func() api.Errno)

// wantOps fails if the scene's call makes other counted calls than these. A device tells them by what it has when it goes down at each of them with nothing kept, with all kept, and with each write kept by itself.
func wantOps(t *testing.T, what string, build scene, ops []op) {
	t.Helper()
	for k := 1; k <= len(ops); k++ {
		d, _ := build()
		count := pending(d.Unflushed(), ops, k)
		var all []int
		for i := range count {
			all = append(all, i)
			wantGoesDown(t, what, build, ops, k, blockdev.Crash{Keep: []int{i}, Torn: -1})
		}
		wantGoesDown(t, what, build, ops, k, blockdev.Crash{Torn: -1})
		wantGoesDown(t, what, build, ops, k, blockdev.Crash{Keep: all, Torn: -1})
	}
	d, call := build()
	plain, calls := d.Twin(), d.Calls()
	do(plain, ops)
	wantErr(t, what, call(), api.OK)
	if d.Calls()-calls != len(ops) || d.Unflushed() != plain.Unflushed() {
		t.Fatalf("%s: %d counted calls, %d unflushed; want %d, %d", what, d.Calls()-calls, d.Unflushed(), len(ops), plain.Unflushed())
	}
	wantImage(t, what, d.Image(), plain.Image())
}

// wantGoesDown fails if the call, when the device goes down at its k-th counted call, leaves other things than the ops do.
func wantGoesDown(t *testing.T, what string, build scene, ops []op, k int, c blockdev.Crash) {
	t.Helper()
	d, call := build()
	plain := d.Twin()
	plain.Plan(k, c)
	do(plain, ops)
	d.Plan(k, c)
	wantErr(t, what, call(), api.ErrDown)
	if !d.Down() || d.Calls() != plain.Calls() {
		t.Fatalf("%s: down %v, %d calls, want %d", what, d.Down(), d.Calls(), plain.Calls())
	}
	wantImage(t, what, d.Image(), plain.Image())
}

// P5.1: Format's writes and flushes, on a device that has other bytes, at either end, and with writes of others that are not flushed.
func TestFormatInOrder(t *testing.T) {
	for _, x := range []struct{ sectors, start, length, unflushed int }{{1, 0, 6, 0}, {2, 2, 6, 2}, {3, 9, 7, 1}, {1, 0, 16, 0}} {
		build := func() (*blockdev.Device, func() api.Errno) {
			d := made(t, 16, x.sectors)
			for i := range x.unflushed {
				d.Write(i, of("w", d.Size()))
			}
			return d, func() api.Errno { return journal.Format(d, x.start, x.length) }
		}
		d, _ := build()
		wantOps(t, "Format", build, newModel(d, x.start, x.length).format())
	}
}

// P5.1: behind Format the region has a head, all else is bytes 0; no other block was touched.
func TestFormatted(t *testing.T) {
	d := made(t, 20, 2)
	want := d.Image()
	for i := range 8 {
		want[5+i] = pad("", 1024)
	}
	want[5] = pad("WJH1\x00\x00\x00\x00\x00\x00\x00\x01\x00\x00\x00\x00\x00\x00\x00\x00\x00\x00\x00\x01"+sum("WJH1\x00\x00\x00\x00\x00\x00\x00\x01\x00\x00\x00\x00\x00\x00\x00\x00\x00\x00\x00\x01"), 1024)
	wantErr(t, "Format", journal.Format(d, 5, 8), api.OK)
	wantImage(t, "Format", d.Image(), want)
	if d.Unflushed() != 0 {
		t.Errorf("%d writes are not flushed", d.Unflushed())
	}
	wantTold(t, "a new journal", opened(t, d, 5, 8, 0), 0, 1)
	wantImage(t, "Open", d.Image(), want)
}

// writes are some blocks with data of their own.
func writes(text string, size int, blocks ...int) []journal.Write {
	var l []journal.Write
	for i, n := range blocks {
		l = append(l, journal.Write{Block: n, Data: of(text+string([]byte{'0' + byte(i)}), size)})
	}
	return l
}

// played is a scene: on an empty journal of the region from 2 on, all but the last of the lists are committed (an empty one is a Checkpoint); the last one is the call. The model's ops of that are answered, too.
func played(t *testing.T, sectors, length int, lists ...[]journal.Write) (scene, []op) {
	t.Helper()
	build := func() (*blockdev.Device, func() api.Errno) {
		d, j := formatted(t, 16, sectors, 2, length)
		for _, l := range lists[:len(lists)-1] {
			wantErr(t, "a call ahead", callOf(j, l)(), api.OK)
		}
		return d, callOf(j, lists[len(lists)-1])
	}
	m := newModel(made(t, 16, sectors), 2, length)
	m.format()
	m.open()
	var ops []op
	for _, l := range lists {
		if len(l) == 0 {
			ops = m.checkpoint()
		} else {
			ops = m.commit(l)
		}
	}
	return build, ops
}

// callOf is the Commit of a list, or a Checkpoint, if it is empty.
func callOf(j *journal.Journal, l []journal.Write) func() api.Errno {
	return func() api.Errno {
		if len(l) == 0 {
			return j.Checkpoint()
		}
		return j.Commit(l)
	}
}

// P5.3: a Commit's writes and flushes: of one block and of several, the first one, behind another one, behind a checkpoint that it needs, and round the ring.
func TestCommitInOrder(t *testing.T) {
	for _, sectors := range []int{1, 2} {
		size := 512 * sectors
		a, b, c := writes("a", size, 12), writes("b", size, 15, 0, 11), writes("c", size, 1, 12)
		for _, lists := range [][][]journal.Write{{a}, {b}, {a, b}, {a, b, c}, {b, c, a, b}, {c, a, a, c, b}, {a, nil, b}, {a, nil, b, c, nil, a}} {
			build, ops := played(t, sectors, 9, lists...)
			wantOps(t, "Commit", build, ops)
		}
	}
}

// P5.3: the chapter's own words for the order, of one Commit that needs a checkpoint.
func TestCommitInOrderByHand(t *testing.T) {
	a, b := writes("a", 512, 8, 9), writes("b", 512, 10)
	build, ops := played(t, 1, 6, a, b)
	text := modelTransaction(2, b, 512)
	want := []op{flush, {3, modelHead(2, 0, 2, 512)}, flush, {4, text[0]}, {5, text[1]}, flush, {6, text[2]}, flush, {10, b[0].Data}}
	if len(ops) != len(want) {
		t.Fatalf("%d ops, want %d", len(ops), len(want))
	}
	wantOps(t, "Commit", build, want)
}

// P5.4: a Checkpoint's writes and flushes: to the one head block and to the other one.
func TestCheckpointInOrder(t *testing.T) {
	for _, sectors := range []int{1, 3} {
		size := 512 * sectors
		a, b := writes("a", size, 12), writes("b", size, 15, 0)
		for _, lists := range [][][]journal.Write{{a, nil}, {b, nil}, {a, b, nil}, {a, nil, b, nil}, {b, a, b, nil}, {a, nil, a, nil, b, a, nil}, {nil}, {a, nil, nil}} {
			build, ops := played(t, sectors, 9, lists...)
			wantOps(t, "Checkpoint", build, ops)
		}
	}
}

// P5.3, P5.4: nothing is written by a Commit of no blocks, nor by a Checkpoint of no used places.
func TestNothingToDo(t *testing.T) {
	d, j := formatted(t, 16, 2, 2, 6)
	for range 3 {
		calls, want, used, number := d.Calls(), d.Image(), j.Used(), j.Number()
		wantErr(t, "Commit of none", j.Commit(nil), api.OK)
		wantErr(t, "Commit of none", j.Commit([]journal.Write{}), api.OK)
		if used == 0 {
			wantErr(t, "Checkpoint", j.Checkpoint(), api.OK)
		}
		wantTold(t, "nothing to do", j, used, number)
		wantImage(t, "nothing to do", d.Image(), want)
		if d.Calls() != calls {
			t.Fatalf("%d calls were counted", d.Calls()-calls)
		}
		wantErr(t, "Commit", j.Commit(writes("a", 1024, 9, 10)), api.OK)
	}
}

// P5.2: Open's writes and flushes: of no, one and two transactions to be done again, with either head, round the ring, and with writes that were not flushed.
func TestOpenInOrder(t *testing.T) {
	for _, sectors := range []int{1, 2} {
		size := 512 * sectors
		a, b, c := writes("a", size, 12), writes("WJ", size, 15, 0, 11), writes("c", size, 1, 12)
		for _, lists := range [][][]journal.Write{{nil}, {a}, {a, nil}, {b, c}, {a, nil, b}, {b, nil, c, a}, {c, nil, a, nil, c, a}} {
			built, _ := played(t, sectors, 9, append(lists, nil)...)
			build := func() (*blockdev.Device, func() api.Errno) {
				d, _ := built()
				return d, func() api.Errno {
					_, _, e := journal.Open(d, 2, 9)
					return e
				}
			}
			d, _ := build()
			ops, again, e := newModel(d, 2, 9).open()
			wantErr(t, "the model's open", e, api.OK)
			wantOps(t, "Open", build, ops)
			opened(t, d, 2, 9, again)
		}
	}
}
