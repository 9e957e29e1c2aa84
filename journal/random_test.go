package journal_test

import (
	"slices"
	"testing"

	"wattle/api"
	"wattle/blockdev"
	"wattle/journal"
)

// data is a block's: any bytes, or such as begin with WJ, or what stands in the region, or what the next transactions will write there.
func (c *chance) data(m *model) string {
	number := m.number + uint64(c.below(3))
	switch c.below(10) {
	case 0:
		return of("WJ"+string([]byte{'A' + byte(c.below(26))}), m.size)
	case 1:
		return m.has[m.start+c.below(m.length)]
	case 2:
		return modelRecord(number, m.has[m.start:m.start+2], m.size)
	case 3:
		return modelDescriptor(number, []uint32{uint32(c.below(m.blocks))}, m.size)
	case 4:
		return modelHead(m.own+uint64(c.below(3)), c.below(m.ring()), number, m.size)
	case 5:
		return turned(of("z", m.size), 0, []string{"WJ", "W", "J", "\x00\x00"}[c.below(4)])
	}
	return of(string([]byte{'A' + byte(c.below(26)), 'A' + byte(c.below(26)), 'A' + byte(c.below(26))}), m.size)
}

// writes are so many as a transaction may make, or as many as there are blocks for.
func (c *chance) writes(m *model, n int) []journal.Write {
	var may []int
	for block := range m.blocks {
		if block < m.start || block >= m.start+m.length {
			may = append(may, block)
		}
	}
	var l []journal.Write
	for len(l) < n && len(may) > 0 {
		i := c.below(len(may))
		l = append(l, journal.Write{Block: may[i], Data: c.data(m)})
		may = slices.Delete(may, i, i+1)
	}
	return l
}

// crash is any one of a device that has so many unflushed writes.
func (c *chance) crash(count, sectors int) blockdev.Crash {
	x := blockdev.Crash{Torn: c.below(count+2) - 1, Mask: uint8(c.below(1 << sectors))}
	odds := c.below(5)
	for i := range count {
		if c.below(4) < odds {
			x.Keep = append(x.Keep, i)
		}
	}
	return x
}

// player plays calls on a journal, and on the model.
type player struct {
	chance
	d             *blockdev.Device
	j             *journal.Journal
	m             *model
	sectors       int
	start, length int
}

// newPlayer is one on an empty journal, of any device and region.
func newPlayer(t *testing.T, c chance) *player {
	t.Helper()
	p := &player{chance: c, sectors: 1 + c.below(4)}
	blocks := 16 + c.below(20)
	p.length = 6 + c.below(blocks-5)
	p.start = c.below(blocks - p.length + 1)
	p.d, p.j = formatted(t, blocks, p.sectors, p.start, p.length)
	p.m = newOpened(t, p.d, p.start, p.length)
	return p
}

// call is any call of the journal's, and the model's ops for it; the model has done them.
func (p *player) call() (call func() api.Errno, ops []op) {
	if p.below(6) == 0 {
		return p.j.Checkpoint, p.m.checkpoint()
	}
	l := p.writes(p.m, min(p.m.most(), p.below(4)*p.below(4)))
	return func() api.Errno { return p.j.Commit(l) }, p.m.commit(l)
}

// step makes a call, at which the device goes down now and then.
func (p *player) step(t *testing.T) {
	t.Helper()
	used, number, calls, unflushed := p.j.Used(), p.j.Number(), p.d.Calls(), p.d.Unflushed()
	before := outside(p.d, p.start, p.length)
	call, ops := p.call()
	if len(ops) == 0 || p.below(3) > 0 {
		wantErr(t, "a call", call(), api.OK)
		wantTold(t, "a call", p.j, p.m.used, p.m.number)
		if p.d.Calls()-calls != len(ops) {
			t.Fatalf("%d counted calls, want %d", p.d.Calls()-calls, len(ops))
		}
		wantImage(t, "a call", p.d.Image(), p.m.has)
		return
	}
	k := 1 + p.below(len(ops))
	wantErr(t, "Plan", p.d.Plan(k, p.crash(pending(unflushed, ops, k), p.sectors)), api.OK)
	wantErr(t, "a call", call(), api.ErrDown)
	wantTold(t, "a call that went down", p.j, used, number)
	after := outsideOf(p.m.has, p.start, p.length)
	wantErr(t, "the next call", p.j.Commit(nil), api.ErrState)
	restart(t, p.d)
	wantErr(t, "the next call", p.j.Checkpoint(), api.ErrState)
	p.reopen(t, before, after)
}

// reopen opens the journal, the device going down within that, too; behind it what is outside the region must be one of those that it may be.
func (p *player) reopen(t *testing.T, may ...string) {
	t.Helper()
	for {
		p.m = newModel(p.d, p.start, p.length)
		ops, again, e := p.m.open()
		wantErr(t, "the model's open", e, api.OK)
		if len(ops) == 0 || p.below(2) == 0 {
			p.j = opened(t, p.d, p.start, p.length, again)
			break
		}
		k := 1 + p.below(len(ops))
		wantErr(t, "Plan", p.d.Plan(k, p.crash(pending(p.d.Unflushed(), ops, k), p.sectors)), api.OK)
		wantNoOpen(t, p.d, p.start, p.length, api.ErrDown)
		restart(t, p.d)
	}
	wantImage(t, "Open", p.d.Image(), p.m.has)
	wantTold(t, "Open", p.j, 0, p.m.number)
	if !slices.Contains(may, outside(p.d, p.start, p.length)) {
		t.Fatalf("behind Open the blocks are none of what they may be")
	}
	opened(t, p.d, p.start, p.length, 0)
	wantImage(t, "Open once more", p.d.Image(), p.m.has)
}

// pull takes the device down between two calls.
func (p *player) pull(t *testing.T) {
	t.Helper()
	want := outside(p.d, p.start, p.length)
	wantErr(t, "Pull", p.d.Pull(p.crash(p.d.Unflushed(), p.sectors)), api.OK)
	restart(t, p.d)
	p.reopen(t, want)
}

// P5.2 to P5.7: any calls on any regions, with data of any kind, with crashes at any counted calls and between: all is as the model has it, and each Commit there wholly or not.
func TestAsTheModel(t *testing.T) {
	c := chance(43)
	for range 150 {
		p := newPlayer(t, chance(c.next()))
		for range 60 {
			switch k := p.below(30); {
			case k == 0:
				p.pull(t)
			case k == 1:
				want := outside(p.d, p.start, p.length)
				p.reopen(t, want)
			case k == 2 && p.below(4) == 0:
				want := outside(p.d, p.start, p.length)
				wantErr(t, "Format", journal.Format(p.d, p.start, p.length), api.OK)
				p.reopen(t, want)
				wantTold(t, "formatted anew", p.j, 0, 1)
			default:
				p.step(t)
			}
		}
	}
}

// P5.7: behind Format nothing of a full ring is done again, though the blocks were written since by another one.
func TestFormattedAnew(t *testing.T) {
	for _, fill := range []int{1, 2, 3} {
		d, j := formatted(t, 16, 2, 2, 6)
		for range fill {
			wantErr(t, "Commit", j.Commit(writes("a", 1024, 8, 9)), api.OK)
		}
		want := of("new", 1024)
		lay(t, d, 8, want, want)
		wantErr(t, "Format", journal.Format(d, 2, 6), api.OK)
		image := d.Image()
		wantTold(t, "formatted anew", opened(t, d, 2, 6, 0), 0, 1)
		wantImage(t, "formatted anew", d.Image(), image)
		wantRead(t, d, 8, want)
	}
}
