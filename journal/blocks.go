package journal

import (
	"strings"

	"wattle/sums"
)

// What blocks of the region begin with.
const (
	headMark       = "WJH1"
	descriptorMark = "WJD1"
	recordMark     = "WJC1"
	mark           = "WJ" // of all of these: data that begin so are escaped
	unmarked       = "\x00\x00"
)

// The widths of numbers, in bytes.
const (
	short = 4
	long  = 8
)

// head is what a head block has.
type head struct {
	own    uint64
	tail   int
	number uint64 // of the transaction that stands at the tail, or will
}

// block is the head's block.
func (h head) block(size int) string {
	return summed(headMark+bytesOf(h.own, long)+bytesOf(uint64(h.tail), short)+bytesOf(h.number, long), size)
}

// headOf is the head that a block has, if it is one whose tail is in a ring of so many places.
func headOf(text string, ring int) (head, bool) {
	fields := text[len(headMark):]
	own, tail, number := numberOf(fields[:long]), numberOf(fields[long:long+short]), numberOf(fields[long+short:2*long+short])
	if tail >= uint64(ring) {
		return head{}, false
	}
	h := head{own, int(tail), number}
	return h, h.block(len(text)) == text
}

// target is a block that a transaction writes, as a descriptor tells it: its number, and in the highest bit whether its data are escaped.
type target uint32

const escaped target = 1 << 31

// targetOf is the target of a write.
func targetOf(w Write) target {
	if strings.HasPrefix(w.Data, mark) {
		return target(w.Block) | escaped
	}
	return target(w.Block)
}

// inRing is how a target's data stand in the ring.
func (t target) inRing(data string) string {
	if t&escaped != 0 {
		return unmarked + data[len(mark):]
	}
	return data
}

// room is how many targets there may be in a descriptor, in a block of that size.
func room(size int) int { return (size - len(descriptorMark) - long - short - short) / short }

// descriptor is a descriptor's block.
func descriptor(number uint64, targets []target, size int) string {
	var b strings.Builder
	b.WriteString(descriptorMark + bytesOf(number, long) + bytesOf(uint64(len(targets)), short))
	for _, t := range targets {
		b.WriteString(bytesOf(uint64(t), short))
	}
	return summed(b.String(), size)
}

// targetsOf is what the descriptor tells that a block has; nothing, if it is none with that number and of at most so many targets.
func targetsOf(text string, number uint64, most int) []target {
	at := len(descriptorMark) + long
	count := numberOf(text[at : at+short])
	if count > uint64(most) {
		return nil
	}
	targets := make([]target, count)
	for i := range targets {
		at += short
		targets[i] = target(numberOf(text[at : at+short]))
	}
	if descriptor(number, targets, len(text)) != text {
		return nil
	}
	return targets
}

// unescaped are the writes that targets and the data's blocks in the ring tell, if no data begin with the mark that are said not to be escaped.
func unescaped(targets []target, texts []string) ([]Write, bool) {
	l := make([]Write, len(targets))
	for i, t := range targets {
		l[i] = Write{int(t &^ escaped), texts[i]}
		if t&escaped != 0 {
			l[i].Data = mark + texts[i][len(mark):]
		} else if strings.HasPrefix(texts[i], mark) {
			return nil, false
		}
	}
	return l, true
}

// record is the record's block of a transaction whose descriptor and data stand in the ring so.
func record(number uint64, texts []string, size int) string {
	sum := sums.Crc("")
	for _, text := range texts {
		sum = sums.On(sum, text)
	}
	return filled(beginning(number)+bytesOf(uint64(sum), short), size)
}

// beginning is how a record begins, by which it is known.
func beginning(number uint64) string { return recordMark + bytesOf(number, long) }

// begins says whether a block begins as the record does.
func begins(text string, number uint64) bool { return strings.HasPrefix(text, beginning(number)) }

// transaction are the blocks of one in the ring: its descriptor, its data, its record.
func transaction(number uint64, l []Write, size int) []string {
	var targets []target
	texts := []string{""} // the descriptor's, which is known behind all targets
	for _, w := range l {
		t := targetOf(w)
		targets = append(targets, t)
		texts = append(texts, t.inRing(w.Data))
	}
	texts[0] = descriptor(number, targets, size)
	return append(texts, record(number, texts, size))
}

// summed is a block that has a text and its sum.
func summed(text string, size int) string {
	return filled(text+bytesOf(uint64(sums.Crc(text)), short), size)
}

// filled is a block that has a text, and bytes 0.
func filled(text string, size int) string {
	return text + strings.Repeat("\x00", size-len(text))
}

// bytesOf is a number in so many bytes, the highest first.
func bytesOf(v uint64, width int) string {
	text := make([]byte, width)
	for i := range text {
		text[i] = byte(v >> (8 * (width - 1 - i)))
	}
	return string(text)
}

// numberOf is the number in some bytes.
func numberOf(text string) uint64 {
	var v uint64
	for i := range len(text) {
		v = v<<8 | uint64(text[i])
	}
	return v
}
