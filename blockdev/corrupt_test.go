package blockdev_test

import (
	"math"
	"strings"
	"testing"

	"wattle/api"
	"wattle/blockdev"
)

// over is a text with another one laid over it at that place.
func over(text string, at int, data string) string {
	b := []byte(text)
	copy(b[at:], data)
	return string(b)
}

// P4.3: what is safe is corrupted, and each unflushed write of the block: whichever of them survives shows it.
func TestCorruptAll(t *testing.T) {
	for kept := -1; kept < 4; kept++ {
		d := made(t, 16, 2)
		writes(t, d, 3, of("xy"))
		writes(t, d, 4, of("xy"))
		wantErr(t, "Flush", d.Flush(), api.OK)
		for _, letters := range []string{"ab", "cd"} {
			writes(t, d, 3, of(letters))
			writes(t, d, 4, of(letters))
		}
		wantErr(t, "Corrupt", d.Corrupt(3, 510, "1234"), api.OK)
		wantRead(t, d, 3, over(of("cd"), 510, "1234"))
		wantRead(t, d, 4, of("cd"))
		pulls(t, d, blockdev.Crash{Keep: []int{kept}, Torn: -1})
		three, four := "xy", "xy"
		switch kept {
		case 0:
			three = "ab"
		case 1:
			four = "ab"
		case 2:
			three = "cd"
		case 3:
			four = "cd"
		}
		wantRead(t, d, 3, over(of(three), 510, "1234"))
		wantRead(t, d, 4, of(four))
	}
}

// P4.3: a write behind it is as it was handed in; a torn one lays its sectors over the corrupted bytes.
func TestWriteBehindCorrupt(t *testing.T) {
	d := made(t, 16, 2)
	wantErr(t, "Corrupt", d.Corrupt(0, 0, of("zz")), api.OK)
	writes(t, d, 0, of("ab"))
	wantRead(t, d, 0, of("ab"))
	pulls(t, d, blockdev.Crash{Torn: 0, Mask: 1})
	wantRead(t, d, 0, of("az"))
	writes(t, d, 0, of("cd"))
	wantErr(t, "Corrupt", d.Corrupt(0, 512, "!"), api.OK)
	wantErr(t, "Flush", d.Flush(), api.OK)
	pulls(t, d, none())
	wantRead(t, d, 0, over(of("cd"), 512, "!"))
}

// P4.3: each place of a block, its first and its last byte, all of it, and no bytes, at its end too.
func TestCorruptPlaces(t *testing.T) {
	for _, sectors := range []int{1, 8} {
		size := 512 * sectors
		for _, at := range []int{0, 1, 511, size - 1, size} {
			for _, k := range []int{0, 1, 2, 511, 512, size - 1, size, size + 1} {
				d := made(t, 16, sectors)
				writes(t, d, 15, of("abcdefgh"[:sectors]))
				want := d.Image()
				data := strings.Repeat("#", k)
				if at+k > size {
					wantErr(t, "Corrupt", d.Corrupt(15, at, data), api.ErrArg)
				} else {
					wantErr(t, "Corrupt", d.Corrupt(15, at, data), api.OK)
					want[15] = over(want[15], at, data)
				}
				wantImage(t, "behind Corrupt", d, want)
				if d.Calls() != 1 || d.Unflushed() != 1 || d.Reads() != 0 {
					t.Fatalf("Calls %d, Unflushed %d, Reads %d", d.Calls(), d.Unflushed(), d.Reads())
				}
			}
		}
	}
}

// The table of errors: places that there are not.
func TestCorruptRefused(t *testing.T) {
	d := made(t, 16, 2)
	writes(t, d, 0, of("ab"))
	want := d.Image()
	for _, at := range []int{-1, -1024, 1025, 1 << 32, math.MinInt, math.MaxInt} {
		for _, data := range []string{"", "a", of("aa"), of("aaa")} {
			wantErr(t, "Corrupt", d.Corrupt(0, at, data), api.ErrArg)
		}
	}
	for _, at := range []int{0, 1, 1023, 1024} {
		wantErr(t, "Corrupt", d.Corrupt(0, at, of("aaa")), api.ErrArg)
	}
	wantImage(t, "behind refused ones", d, want)
}

// P4.3: while the device is down what survived is corrupted.
func TestCorruptWhileDown(t *testing.T) {
	d := made(t, 16, 2)
	writes(t, d, 0, of("ab"))
	writes(t, d, 1, of("cd"))
	wantErr(t, "Pull", d.Pull(blockdev.Crash{Keep: []int{0}, Torn: 1, Mask: 2}), api.OK)
	wantErr(t, "Corrupt", d.Corrupt(0, 1023, "!"), api.OK)
	wantErr(t, "Corrupt", d.Corrupt(1, 0, "?"), api.OK)
	wantErr(t, "Corrupt", d.Corrupt(1, 1024, ""), api.OK)
	if !d.Down() || d.Calls() != 2 {
		t.Errorf("Down %v, Calls %d", d.Down(), d.Calls())
	}
	want := d.Image()
	if want[0] != over(of("ab"), 1023, "!") || want[1] != over(of("0d"), 0, "?") {
		t.Errorf("an image of %s, %s", brief(want[0]), brief(want[1]))
	}
	wantErr(t, "Restart", d.Restart(), api.OK)
	wantImage(t, "up again", d, want)
	pulls(t, d, none())
	wantImage(t, "behind another crash", d, want)
}

// P4.3: of unlike blocks that have the same text, the one is corrupted alone; what was handed in and handed out stays.
func TestCorruptOneAlone(t *testing.T) {
	d := made(t, 16, 1)
	text := of("a")
	for n := range 16 {
		writes(t, d, n, text)
	}
	read, _ := d.Read(2)
	image := d.Image()
	twin := d.Twin()
	wantErr(t, "Corrupt", d.Corrupt(2, 0, "bbb"), api.OK)
	if read != of("a") || image[2] != of("a") || text != of("a") {
		t.Errorf("what was read is %s, the image %s, what was written %s", brief(read), brief(image[2]), brief(text))
	}
	wantImage(t, "the twin", twin, image)
	image[2] = over(text, 0, "bbb")
	wantImage(t, "the device", d, image)
}
