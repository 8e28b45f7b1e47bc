package gunzip_test

import (
	"bytes"
	"compress/gzip"
	"io"
	"math"
	"slices"
	"strings"
	"sync"
	"testing"

	"presswork/api"
	"presswork/gunzip"
)

// short is bytes as a failure tells them.
func short(b []byte) []byte { return b[:min(len(b), 200)] }

func sameFlow(f, g api.Flow) bool {
	return bytes.Equal(f.Bytes, g.Bytes) && f.Size == g.Size && f.Used == g.Used && f.Wrong == g.Wrong
}

// wantFlow asks for that flow.
func wantFlow(t *testing.T, g []byte, keep int, want api.Flow) {
	t.Helper()
	f, e := gunzip.Gunzip(g, keep)
	if e != api.OK || !sameFlow(f, want) {
		t.Fatalf("Gunzip(%d: %x, %d) = %d: %x, %d, %d, %v, %v, want %d: %x, %d, %d, %v", len(g), short(g), keep,
			len(f.Bytes), short(f.Bytes), f.Size, f.Used, f.Wrong, e, len(want.Bytes), short(want.Bytes), want.Size, want.Used, want.Wrong)
	}
}

// wantError asks for that error, and nothing beside it.
func wantError(t *testing.T, g []byte, keep int, want api.Errno) {
	t.Helper()
	f, e := gunzip.Gunzip(g, keep)
	if e != want || !sameFlow(f, api.Flow{}) {
		t.Fatalf("Gunzip(%d: %x, %d) = %x, %d, %d, %v, %v, want %v", len(g), short(g), keep,
			short(f.Bytes), f.Size, f.Used, f.Wrong, e, want)
	}
}

// wantNone asks that bytes are no file, whatever is kept; below 0 that is another error.
func wantNone(t *testing.T, g []byte) {
	t.Helper()
	for _, keep := range []int{0, 1, 9, math.MaxInt} {
		wantError(t, g, keep, api.ErrForm)
	}
	wantError(t, g, -1, api.ErrArg)
}

// keepsOf is how many bytes may be kept: all edges of the members, and of what they say.
func keepsOf(l []member) []int {
	keeps := []int{0, 1, math.MaxInt - 1, math.MaxInt}
	end := 0
	for _, m := range l {
		for _, keep := range []int{end + len(m.said)/2, end + len(m.said) - 1, end + len(m.said), end + len(m.said) + 1} {
			keeps = append(keeps, max(keep, 0))
		}
		end += len(m.said)
	}
	slices.Sort(keeps)
	return slices.Compact(keeps)
}

// wantFile asks that these members are a file which says what they say, whatever is kept, and that this is what the test's own reader says of it.
func wantFile(t *testing.T, l ...member) {
	t.Helper()
	g := fileOf(l...)
	read, ok := defined(g)
	if !ok || !sameFlow(flowOf(read, math.MaxInt), flowOf(l, math.MaxInt)) {
		t.Fatalf("the test's own reader of %d: %x: %v", len(g), short(g), ok)
	}
	for _, keep := range keepsOf(l) {
		wantFlow(t, g, keep, flowOf(l, keep))
	}
	wantError(t, g, -1, api.ErrArg)
}

// wantRight is wantFile, where all sums are right.
func wantRight(t *testing.T, l ...member) {
	t.Helper()
	if flowOf(l, math.MaxInt).Wrong {
		t.Fatal("the test's own members are wrong")
	}
	wantFile(t, l...)
}

// wantDefined holds Gunzip against what the chapter's words say of bytes, and tells whether they are a file.
func wantDefined(t *testing.T, g []byte) bool {
	t.Helper()
	l, ok := defined(g)
	if !ok {
		wantNone(t, g)
		return false
	}
	for _, keep := range keepsOf(l) {
		wantFlow(t, g, keep, flowOf(l, keep))
	}
	return true
}

// example is the chapter's member.
const example = "\x1f\x8b\x08\x00\x00\x00\x00\x00\x00\xff" + "\x4b\x04\x00" + "\x43\xbe\xb7\xe8\x01\x00\x00\x00"

// P12.1: the chapter's examples.
func TestExamples(t *testing.T) {
	m := []byte(example)
	wantFlow(t, m, 9, api.Flow{Bytes: []byte("a"), Size: 1, Used: 21})
	wantFlow(t, []byte(example+example), 9, api.Flow{Bytes: []byte("aa"), Size: 2, Used: 42})
	wantFlow(t, []byte(example+example), 1, api.Flow{Bytes: []byte("a"), Size: 2, Used: 42})
	wantError(t, []byte(example+"\x00"), 9, api.ErrForm)
	wantError(t, nil, 9, api.ErrForm)
	wantError(t, []byte{}, 9, api.ErrForm)
	wantError(t, m[:len(m)-1], 9, api.ErrForm)
	for i := len(m) - 8; i < len(m); i++ {
		turned := slices.Clone(m)
		turned[i] ^= 0x10
		wantFlow(t, turned, 9, api.Flow{Bytes: []byte("a"), Size: 1, Used: 21, Wrong: true})
		wantFlow(t, turned, 0, api.Flow{Size: 1, Used: 21})
	}
	none := "\x1f\x8b\x08\x00\x00\x00\x00\x00\x00\xff\x03\x00\x00\x00\x00\x00\x00\x00\x00\x00"
	wantFlow(t, []byte(none), 9, api.Flow{Used: 20})
}

// P12.1: a file of two members written out byte by byte, the first one with all fields, the other one with a stored block.
func TestByteByByte(t *testing.T) {
	head := "\x1f\x8b\x08\x1d\x01\x02\x03\x04\x05\x06" + "\x03\x00e\x00x" + "na\x00" + "co\x00"
	first := head + "\x4b\x04\x00" + "\x43\xbe\xb7\xe8\x01\x00\x00\x00"
	other := "\x1f\x8b\x08\x00\x00\x00\x00\x00\x00\x03" + "\x01\x09\x00\xf6\xff123456789" + "\x26\x39\xf4\xcb\x09\x00\x00\x00"
	for keep, said := range []string{"", "a", "a1", "a12", "a123", "a1234", "a12345", "a123456", "a1234567", "a12345678", "a123456789", "a123456789"} {
		wantFlow(t, []byte(first+other), keep, api.Flow{Bytes: []byte(said), Size: 10, Used: len(first + other)})
	}
}

// eachRow goes through all rows of 1 to n numbers below most.
func eachRow(n, most int, do func(l []int)) {
	var each func(l []int)
	each = func(l []int) {
		if len(l) > 0 {
			do(l)
		}
		if len(l) < n {
			for v := range most {
				each(append(slices.Clone(l), v))
			}
		}
	}
	each(nil)
}

// streamOf is a stream of blocks of these kinds, each of which says something of its own.
func streamOf(row []int, mark byte) *writer {
	w := &writer{}
	for i, kind := range row {
		w.block(i == len(row)-1, kind, string([]byte{mark, byte(i), 0xfe}), i%2 == 0)
	}
	return w
}

// P12.1: blocks of all kinds in one member, and in two.
func TestKindsOfBlocks(t *testing.T) {
	eachRow(3, kinds, func(row []int) {
		one := memberOf(plainHead(), streamOf(row, 'a'))
		wantRight(t, one)
		eachRow(2, kinds, func(row []int) {
			wantRight(t, one, memberOf(plainHead(), streamOf(row, 'b')))
		})
	})
}

// P12.1: members that say nothing, by blocks of each kind, ahead of, between and behind others.
func TestMembersThatSayNothing(t *testing.T) {
	some := []member{stores("some"), stores("x")}
	for kind := range kinds {
		w := &writer{}
		w.block(true, kind, "", false)
		some = append(some, memberOf(plainHead(), w))
	}
	eachRow(4, len(some), func(row []int) {
		var l []member
		for _, i := range row {
			l = append(l, some[i])
		}
		wantRight(t, l...)
	})
}

// P12.1: heads with none, each one, and all of the fields, in every mixture, of the first member and of a later one.
func TestHeads(t *testing.T) {
	for _, x := range []struct{ extra, name, comment string }{{"ex\x00tra", "name", "comment"}, {"", "", ""}, {example, "\x1f\x8b\x08", "\xff"}} {
		for flags := range byte(32) {
			head := headOf(flags, x.extra, x.name, x.comment)
			m := memberOf(head, streamOf([]int{fixed}, 'f'))
			wantRight(t, m)
			wantRight(t, m, stores("other"))
			wantRight(t, stores("other"), m)
			wantRight(t, m, m, m)
		}
	}
	great := strings.Repeat("\x00", 65535)
	long := strings.Repeat("n", 100000)
	wantRight(t, memberOf(headOf(31, great, long, long), streamOf([]int{dynamic}, 'd')), stores("behind"))
}

// P12.1: a flag that is none.
func TestOtherFlags(t *testing.T) {
	for flags := 32; flags < 256; flags++ {
		m := memberOf(headOf(byte(flags), "", "", ""), streamOf([]int{stored}, 's'))
		wantNone(t, fileOf(m))
		wantNone(t, fileOf(stores("right"), m))
	}
}

// P12.1: streams that end at each bit of a byte, one of them with the byte, whatever bits stand behind.
func TestStreamsThatEndAtEachBit(t *testing.T) {
	ends := map[int]bool{}
	for n := range 8 {
		for _, bit := range []byte{'0', '1'} {
			w := &writer{}
			w.block(true, fixed, strings.Repeat("\xf0", n), false) // 10 bits, and 9 for each byte
			ends[w.bits.Len()%8] = true
			w.fill(bit)
			m := memberOf(plainHead(), w)
			wantRight(t, m)
			wantRight(t, m, m)
			wantNone(t, fileOf(m)[:len(fileOf(m))-1])
		}
	}
	if len(ends) != 8 {
		t.Errorf("streams end at %d bits of a byte", len(ends))
	}
}

// P12.1, P12.2: one member, a few, and many.
func TestManyMembers(t *testing.T) {
	r := source(1)
	for _, n := range []int{1, 2, 3, 10, 300} {
		l := roughMembers(r, n, 5)
		g := fileOf(l...)
		size := flowOf(l, 0).Size
		for _, keep := range []int{0, size / 2, size, math.MaxInt} {
			wantFlow(t, g, keep, flowOf(l, keep))
		}
		wantNone(t, g[:len(g)-1])
		l[n-1] = l[n-1].turned(9)
		wantFlow(t, fileOf(l...), size, flowOf(l, size))
		l[n-1] = l[n-1].turned(9)
		l[0] = l[0].turned(50)
		wantFlow(t, fileOf(l...), size, flowOf(l, size))
	}
}

// P12.1: members that say more than a window, a block, and a segment.
func TestGreatMembers(t *testing.T) {
	r := source(2)
	var l []member
	for i, n := range []int{32768, 32769, 65535, 65536, 100000} {
		said := roughBytes(r, n)
		l = append(l, member{head: plainHead(), stream: pressed(said, i*2), said: said, tail: tailOf(said)})
	}
	wantRight(t, l...)
	l[2] = l[2].turned(0)
	wantFile(t, l...)
}

// cutFiles are files of one member to three, with all fields and none, with blocks of all kinds.
func cutFiles() [][]member {
	full := memberOf(headOf(31, "extra", "name", "comment"), streamOf([]int{fixed, stored}, 'a'))
	big := memberOf(plainHead(), streamOf([]int{dynamic, fixed}, 'b'))
	none := stores("")
	return [][]member{{full}, {big}, {none}, {full, big}, {none, full}, {big, none, full}, {none, none, none}}
}

// P12.1: a file that is cut at any place is none, but where a member ends: there it says what the members ahead say.
func TestCuts(t *testing.T) {
	for _, l := range cutFiles() {
		g := fileOf(l...)
		whole := map[int]int{} // how many members, by how many bytes these have
		for n := 1; n <= len(l); n++ {
			whole[len(fileOf(l[:n]...))] = n
		}
		for cut := range len(g) + 1 {
			if n, ok := whole[cut]; ok {
				wantFlow(t, g[:cut], 5, flowOf(l[:n], 5))
			} else {
				wantNone(t, g[:cut])
			}
			if cut > 0 && cut < len(g) {
				wantDefined(t, g[cut:])
			}
		}
	}
}

// P12.1: bytes more behind the last member, that are no member.
func TestBytesBehind(t *testing.T) {
	for _, l := range cutFiles() {
		g := fileOf(l...)
		for b := range 256 {
			wantNone(t, append(slices.Clone(g), byte(b)))
		}
		for n := range 40 {
			wantNone(t, append(slices.Clone(g), make([]byte, n+1)...))
		}
		for cut := 1; cut < len(example); cut++ {
			wantNone(t, append(slices.Clone(g), example[:cut]...))
			wantNone(t, append([]byte(example[:cut]), g...))
			wantNone(t, append(slices.Clone(g), example[cut:]...))
		}
		wantFlow(t, append(slices.Clone(g), example...), math.MaxInt, flowOf(append(slices.Clone(l), read(t, example)...), math.MaxInt))
	}
}

// read is the members that the test's own reader finds.
func read(t *testing.T, g string) []member {
	t.Helper()
	l, ok := defined([]byte(g))
	if !ok {
		t.Fatalf("the test's own reader of %x", g)
	}
	return l
}

// wantNoneAnywhere asks that a member that is none makes a file none, ahead of, between and behind members that are right.
func wantNoneAnywhere(t *testing.T, none []byte) {
	t.Helper()
	right := []byte(example)
	for _, g := range [][]byte{none, slices.Concat(none, right), slices.Concat(right, none), slices.Concat(right, none, right), slices.Concat(right, right, right, none)} {
		wantNone(t, g)
	}
}

// P12.1: heads that are none, in the first member and in later ones.
func TestHeadsThatAreNone(t *testing.T) {
	for i := range 3 { // the first three bytes may be no others
		for b := range 256 {
			g := []byte(example)
			if g[i] == byte(b) {
				continue
			}
			g[i] = byte(b)
			wantNoneAnywhere(t, g)
		}
	}
	wantNoneAnywhere(t, []byte("BZh1\x17\x72\x45\x38\x50\x90\x00\x00\x00\x00"))
	wantNoneAnywhere(t, []byte(example[10:])) // without a head
	wantNoneAnywhere(t, bytes.Repeat([]byte{0}, 30))
}

// P12.1: streams that are none, in the first member and in later ones.
func TestStreamsThatAreNone(t *testing.T) {
	var early writer // it repeats what no byte of its own is: what the member ahead says plays no part
	early.block(true, fixed, "", true)
	for _, stream := range []string{
		string(early.bytes()),
		"\x07",                           // of the kind that is none
		"\x01\x01\x00\xfe\xfea",          // stored, with a count that is another one
		"\x01\x01\x00\x00\x00a",          // likewise
		"\x05\x00",                       // dynamic, with a head that is none
		"",                               // none at all
		"\x1b\x03",                       // of the symbol 286
		"\x00\x01\x00\xfe\xffa" + "\x07", // the second block is of the kind that is none
	} {
		g := slices.Concat(plainHead(), []byte(stream), tailOf([]byte("a")))
		if _, ok := defined(g); ok {
			t.Fatalf("%x is a file", g)
		}
		wantNoneAnywhere(t, g)
	}
	// A stream without a last block goes on into the tail, and what is behind it.
	open := slices.Concat(plainHead(), []byte("\x00\x01\x00\xfe\xffa"), tailOf([]byte("a")))
	wantNoneAnywhere(t, open)
}

// P12.1: tails of fewer than 8 bytes, in the first member, in one between, and in the last one.
func TestShortTails(t *testing.T) {
	for n := range 8 {
		for _, m := range []member{stores("short"), stores(""), memberOf(plainHead(), streamOf([]int{fixed}, 'f'))} {
			m.tail = m.tail[:n]
			wantNoneAnywhere(t, m.bytes())
		}
	}
}

// summed is a member whose head has a sum.
func summed(text string) member {
	w := &writer{}
	w.block(true, fixed, text, false)
	return memberOf(headOf(flagSum|flagName, "", "n", ""), w)
}

// P12.1: a head's sum that is another one is wrong, wherever its member stands, whatever is kept.
func TestHeadSums(t *testing.T) {
	for _, text := range []string{"", "abc"} {
		l := []member{summed(text), summed("first"), summed(text), summed("last")}
		wantRight(t, l...)
		for i := range l {
			for bit := range 16 {
				wrong := slices.Clone(l)
				wrong[i] = wrong[i].misSummed(bit)
				g := fileOf(wrong...)
				for keep := range 20 {
					f, e := gunzip.Gunzip(g, keep)
					if e != api.OK || !f.Wrong {
						t.Fatalf("Gunzip(%x, %d): %v, %v, with another sum in member %d", g, keep, f.Wrong, e, i)
					}
				}
				wantFile(t, wrong...)
				wantNone(t, g[:len(g)-1])
			}
		}
	}
}

// P12.1: any bit of a tail turned is wrong, where all of the member's bytes are kept, and only there.
func TestTailBits(t *testing.T) {
	l := []member{stores("first"), memberOf(headOf(31, "e", "n", "c"), streamOf([]int{dynamic, fixed}, 'b')), stores("last")}
	end := 0
	for i, m := range l {
		end += len(m.said)
		for bit := range 64 {
			wrong := slices.Clone(l)
			wrong[i] = m.turned(bit)
			g := fileOf(wrong...)
			for _, x := range []struct {
				keep  int
				wrong bool
			}{{0, false}, {end - len(m.said), false}, {end - 1, false}, {end, true}, {end + 1, true}, {math.MaxInt, true}} {
				if f, e := gunzip.Gunzip(g, x.keep); e != api.OK || f.Wrong != x.wrong {
					t.Fatalf("Gunzip(%x, %d): %v, %v, with bit %d of tail %d turned", short(g), x.keep, f.Wrong, e, bit, i)
				}
			}
			wantFile(t, wrong...)
		}
	}
}

// P12.1: a tail that has one number right only, the two in the other order, or those of other bytes.
func TestOtherTails(t *testing.T) {
	right := stores("right")
	other := tailOf([]byte("other"))
	for _, tail := range [][]byte{
		slices.Concat(right.tail[:4], tailOf([]byte("five+1"))[4:]), slices.Concat(other[:4], right.tail[4:]),
		slices.Concat(right.tail[4:], right.tail[:4]), other, make([]byte, 8), bytes.Repeat([]byte{0xff}, 8),
		tailOf(nil), tailOf([]byte("rightright")), tailOf([]byte("righ")),
	} {
		m := right
		m.tail = tail
		for _, l := range [][]member{{m}, {m, right}, {right, m}, {right, m, right}} {
			if f, _ := gunzip.Gunzip(fileOf(l...), math.MaxInt); !f.Wrong {
				t.Errorf("the tail %x is right", tail)
			}
			wantFile(t, l...)
		}
	}
}

// P12.1: a tail is that of its own member's bytes, not of those of all members up to it.
func TestTailOfAll(t *testing.T) {
	l := []member{stores("one"), stores("two")}
	l[1].tail = tailOf([]byte("onetwo"))
	if f, _ := gunzip.Gunzip(fileOf(l...), 9); !f.Wrong {
		t.Error("the tail of all members is right")
	}
	wantFile(t, l...)
}

// P12.1: of a member that says nothing, all bytes are kept, whatever is kept: its tail is wrong even behind members that are not kept.
func TestWrongMembersThatSayNothing(t *testing.T) {
	text := stores("text")
	for kind := range kinds {
		w := &writer{}
		w.block(true, kind, "", false)
		none := memberOf(plainHead(), w)
		for bit := range 64 {
			wrong := none.turned(bit)
			for _, l := range [][]member{{wrong}, {wrong, text}, {text, wrong}, {text, wrong, text}, {none, wrong}, {text, text, wrong}} {
				for keep := range 14 {
					if f, e := gunzip.Gunzip(fileOf(l...), keep); e != api.OK || !f.Wrong {
						t.Fatalf("%v, %v with keep %d, bit %d", f.Wrong, e, keep, bit)
					}
				}
			}
		}
		wantFile(t, text, none.turned(1), text)
	}
}

// P12.1: wrong members among right ones, in all mixtures.
func TestMixturesOfWrong(t *testing.T) {
	some := []member{stores("right"), stores("wrong").turned(7), stores("").turned(40), summed("").misSummed(3), summed("x")}
	eachRow(4, len(some), func(row []int) {
		var l []member
		for _, i := range row {
			l = append(l, some[i])
		}
		wantFile(t, l...)
	})
}

// P12.1, P12.2: Size and Used are the same for any keep, and Bytes are the beginning of what the file says.
func TestEachKeep(t *testing.T) {
	r := source(3)
	for range 30 {
		l := roughMembers(r, 1+r.IntN(4), 9)
		if r.IntN(2) == 0 {
			i := r.IntN(len(l))
			l[i] = l[i].turned(r.IntN(64))
		}
		g := fileOf(l...)
		all, _ := gunzip.Gunzip(g, math.MaxInt)
		for keep := range all.Size + 3 {
			f, e := gunzip.Gunzip(g, keep)
			if e != api.OK || f.Size != all.Size || f.Used != len(g) || !bytes.Equal(f.Bytes, all.Bytes[:min(keep, all.Size)]) {
				t.Fatalf("Gunzip(%x, %d) = %+v, %v, want %+v", short(g), keep, f, e, all)
			}
			wantFlow(t, g, keep, flowOf(l, keep))
		}
	}
}

// P12.1, R5: a keep below 0 is ErrArg, whatever the bytes are.
func TestKeepBelowZero(t *testing.T) {
	wrong := fileOf(stores("wrong").turned(0))
	for _, keep := range []int{-1, -2, -9, -258, -1 << 31, math.MinInt + 1, math.MinInt} {
		for _, g := range [][]byte{nil, {}, {0}, []byte(example), []byte(example + example), []byte(example + "\x00"), []byte(example[:20]), wrong} {
			wantError(t, g, keep, api.ErrArg)
		}
	}
}

// P12.1, R4, R5: where a member is none there is nothing beside the error, whatever the members ahead say, and however wrong they are.
func TestNothingBesideErrors(t *testing.T) {
	for _, ahead := range [][]member{{stores("right")}, {stores("wrong").turned(3)}, {summed("x").misSummed(2)}, {stores(""), stores("").turned(1), stores("y")}} {
		for _, behind := range []string{"\x00", example[:20], "\x1f\x8b\x07", example[10:], strings.Repeat("\x1f", 30)} {
			wantNone(t, append(fileOf(ahead...), behind...))
		}
	}
}

// P12.1: many files, put together member by member, say what was put in.
func TestManyFiles(t *testing.T) {
	r := source(4)
	for i := range 200 {
		l := roughMembers(r, 1+r.IntN(5), []int{0, 2, 9, 100, 3000}[i%5])
		wantRight(t, l...)
		l[r.IntN(len(l))].tail = roughBytes(r, 8)
		wantFile(t, l...)
	}
}

// P12.2: two files, one behind the other, say what both say, and are wrong if one of them is.
func TestTwoFiles(t *testing.T) {
	r := source(5)
	var files [][]byte
	for i := range 24 {
		l := roughMembers(r, 1+i%3, 30)
		switch i % 4 {
		case 1:
			l[0] = l[0].turned(i)
		case 2:
			l[len(l)-1] = l[len(l)-1].turned(i)
		}
		files = append(files, fileOf(l...))
	}
	files = append(files, []byte(example), fileOf(stores("")), fileOf(stores("").turned(5)), fileOf(summed("s").misSummed(9)))
	wrongs := 0
	for _, one := range files {
		for _, other := range files {
			f, e := gunzip.Gunzip(one, math.MaxInt)
			g, o := gunzip.Gunzip(other, math.MaxInt)
			if e != api.OK || o != api.OK {
				t.Fatal(e, o)
			}
			both := api.Flow{Bytes: slices.Concat(f.Bytes, g.Bytes), Size: f.Size + g.Size, Used: f.Used + g.Used, Wrong: f.Wrong || g.Wrong}
			wantFlow(t, slices.Concat(one, other), math.MaxInt, both)
			if both.Wrong {
				wrongs++
			}
			wantNone(t, slices.Concat(one, []byte{0}, other))
		}
	}
	if wrongs == 0 || wrongs == len(files)*len(files) {
		t.Errorf("%d of all pairs are wrong", wrongs)
	}
}

// P12.1, R1: files of which bits were turned, bytes left out or laid between, or that were cut, are what a plain reader says of them.
func TestTurnedFiles(t *testing.T) {
	r := source(6)
	files, wrongs := 0, 0
	const all = 2000
	for i := range all {
		g := fileOf(roughMembers(r, 1+r.IntN(3), 6)...)
		for range 1 + r.IntN(2) {
			at := r.IntN(len(g))
			switch i % 5 {
			case 0, 1:
				g[at] ^= 1 << r.IntN(8)
			case 2:
				g = slices.Delete(g, at, min(len(g), at+1+r.IntN(3)))
			case 3:
				g = slices.Insert(g, at, roughBytes(r, 1+r.IntN(3))...)
			case 4:
				g[at] = byte(r.IntN(256))
			}
			if len(g) == 0 {
				break
			}
		}
		if wantDefined(t, g) {
			files++
			if f, _ := gunzip.Gunzip(g, math.MaxInt); f.Wrong {
				wrongs++
			}
		}
	}
	if files < all/10 || files > all*9/10 || wrongs < all/10 || wrongs == files {
		t.Errorf("%d of %d are files, %d of these are wrong", files, all, wrongs)
	}
}

// P12.1, R1: rough bytes, alone, behind a head, and of streams with about as many bytes behind them as a tail has, are what a plain reader says of them.
func TestRoughBytes(t *testing.T) {
	r := source(7)
	files, wrongs := 0, 0
	const all = 1500
	for i := range all {
		g := roughBytes(r, r.IntN(40))
		switch i % 6 {
		case 0:
		case 1:
			g = slices.Concat(roughHead(r), g)
		default:
			g = slices.Concat(roughHead(r), roughStream(r), roughBytes(r, 6+i%5))
		}
		if r.IntN(3) == 0 {
			g = append([]byte(example), g...)
		}
		if wantDefined(t, g) {
			files++
			if f, _ := gunzip.Gunzip(g, math.MaxInt); f.Wrong {
				wrongs++
			}
		}
	}
	if files < all/10 || wrongs < all/20 || wrongs == files {
		t.Errorf("%d of %d are files, %d of these are wrong", files, all, wrongs)
	}
}

// P12.1: what others read of a file, and what they refuse. (The library asks for all sums, and keeps all.)
func TestReadByOthers(t *testing.T) {
	r := source(8)
	wrongs := 0
	for i := range 600 {
		l := roughMembers(r, 1+r.IntN(4), 200)
		if i%2 == 0 {
			at := r.IntN(len(l))
			l[at] = l[at].turned(r.IntN(64))
		}
		g := fileOf(l...)
		f, e := gunzip.Gunzip(g, math.MaxInt)
		said, ok := readByOthers(g)
		if e != api.OK || f.Wrong == ok || ok && !bytes.Equal(said, f.Bytes) {
			t.Fatalf("Gunzip(%x) = %x, %v, %v, others say %x, %v", short(g), short(f.Bytes), f.Wrong, e, short(said), ok)
		}
		if f.Wrong {
			wrongs++
		}
		g = g[:r.IntN(len(g))]
		_, e = gunzip.Gunzip(g, math.MaxInt)
		if _, ok := readByOthers(g); ok && e != api.OK {
			t.Fatalf("Gunzip(%x) = %v, others read it", short(g), e)
		}
	}
	if wrongs != 300 {
		t.Errorf("%d files are wrong", wrongs)
	}
}

// readByOthers is what the library reads of a file, if it finds nothing wrong.
func readByOthers(g []byte) ([]byte, bool) {
	z, err := gzip.NewReader(bytes.NewReader(g))
	if err != nil {
		return nil, false
	}
	said, err := io.ReadAll(z)
	return said, err == nil
}

// P12.1: files that others write, of all levels.
func TestWrittenByOthers(t *testing.T) {
	r := source(9)
	for level := gzip.HuffmanOnly; level <= gzip.BestCompression; level++ {
		var g bytes.Buffer
		var said []byte
		for _, n := range []int{0, 1, 300, 70000} {
			b := roughBytes(r, n)
			said = append(said, b...)
			z, err := gzip.NewWriterLevel(&g, level)
			if err != nil {
				t.Fatal(err)
			}
			z.Name, z.Comment, z.Extra = "name"[:n%5%4], "comment"[:n%3], b[:n%7%(n+1)]
			z.Write(b)
			z.Close()
			for _, keep := range []int{0, len(said) / 2, len(said), math.MaxInt} {
				wantFlow(t, g.Bytes(), keep, api.Flow{Bytes: said[:min(keep, len(said))], Size: len(said), Used: g.Len()})
			}
		}
	}
}

// R3: bytes that are handed in are neither changed nor kept, with the room behind their end, which plays no part; what is handed out is new memory.
func TestMemory(t *testing.T) {
	r := source(10)
	for range 100 {
		l := roughMembers(r, 1+r.IntN(3), 20)
		g := fileOf(l...)
		room := slices.Concat(g, []byte(example))
		before := slices.Clone(room)
		want := flowOf(l, math.MaxInt)
		first, _ := gunzip.Gunzip(room[:len(g)], math.MaxInt)
		second, _ := gunzip.Gunzip(room[:len(g)], math.MaxInt)
		wantNone(t, room[:len(g)-1]) // the missing byte is there, behind the end
		if !bytes.Equal(room, before) {
			t.Fatalf("%x became %x", before, room)
		}
		clear(room)
		if !sameFlow(first, want) {
			t.Fatalf("%+v, want %+v: it hangs on what was handed in", first, want)
		}
		all := first.Bytes[:cap(first.Bytes)]
		for i := range all {
			all[i] = 77
		}
		if !sameFlow(second, want) || !bytes.Equal(room, make([]byte, len(room))) {
			t.Fatal("an answer shares memory")
		}
		wantFlow(t, g, math.MaxInt, want)
	}
}

// R2: the same arguments have the same answer again, whatever was asked between, from many goroutines at once.
func TestSameAgain(t *testing.T) {
	r := source(11)
	var files [][]member
	for range 30 {
		l := roughMembers(r, 1+r.IntN(3), 50)
		l[0] = l[0].turned(r.IntN(64))
		files = append(files, l)
	}
	shared := fileOf(files[0]...)
	var g sync.WaitGroup
	for n := range 8 {
		g.Go(func() {
			for _, l := range slices.Backward(slices.Concat(files, files)) {
				b := fileOf(l...)
				for _, keep := range []int{0, n, math.MaxInt} {
					if f, e := gunzip.Gunzip(b, keep); e != api.OK || !sameFlow(f, flowOf(l, keep)) {
						t.Errorf("Gunzip(%x, %d) = %+v, %v", short(b), keep, f, e)
					}
					if f, e := gunzip.Gunzip(shared, keep); e != api.OK || !sameFlow(f, flowOf(files[0], keep)) {
						t.Errorf("Gunzip(%x, %d) = %+v, %v", short(shared), keep, f, e)
					}
				}
				if _, e := gunzip.Gunzip(b[1:], 9); e != api.ErrForm {
					t.Error(e)
				}
				if _, e := gunzip.Gunzip(b, -1); e != api.ErrArg {
					t.Error(e)
				}
			}
		})
	}
	g.Wait()
}
