package frame_test

import (
	"bytes"
	"encoding/binary"
	"fmt"
	"hash/crc32"
	"math/rand/v2"
	"reflect"
	"strings"

	"presswork/api"
)

// The bits of Has.
const (
	hasExtra   = 1
	hasName    = 2
	hasComment = 4
)

func source(seed uint64) *rand.Rand { return rand.New(rand.NewPCG(11, seed)) }

// short is bytes as a failure tells them.
func short(b []byte) []byte { return b[:min(len(b), 200)] }

// brief is a head as a failure tells it.
func brief(h api.Head) string {
	return fmt.Sprintf("{Text %v, Time %x, Xfl %d, Os %d, Extra %d: %x, Name %d: %.100q, Comment %d: %.100q, Has %d, Sum %v}", h.Text, h.Time, h.Xfl, h.Os,
		len(h.Extra), short(h.Extra), len(h.Name), h.Name, len(h.Comment), h.Comment, h.Has, h.Sum)
}

// may tells whether a head may be, by the chapter's words.
func may(h api.Head) bool {
	if h.Has > 7 || len(h.Extra) > 65535 || strings.Contains(h.Name, "\x00") || strings.Contains(h.Comment, "\x00") {
		return false
	}
	lacks := 7 - h.Has
	return (lacks&1 == 0 || len(h.Extra) == 0) && (lacks&2 == 0 || len(h.Name) == 0) && (lacks&4 == 0 || len(h.Comment) == 0)
}

// laid is a head's bytes, by the chapter's words.
func laid(h api.Head) []byte {
	flags := 0
	for _, x := range []struct {
		has  bool
		flag int
	}{{h.Text, 1}, {h.Sum, 2}, {h.Has&hasExtra != 0, 4}, {h.Has&hasName != 0, 8}, {h.Has&hasComment != 0, 16}} {
		if x.has {
			flags += x.flag
		}
	}
	b := []byte{0x1f, 0x8b, 8, byte(flags)}
	b = binary.LittleEndian.AppendUint32(b, h.Time)
	b = append(b, h.Xfl, h.Os)
	if h.Has&hasExtra != 0 {
		b = binary.LittleEndian.AppendUint16(b, uint16(len(h.Extra)))
		b = append(b, h.Extra...)
	}
	if h.Has&hasName != 0 {
		b = append(b, h.Name+"\x00"...)
	}
	if h.Has&hasComment != 0 {
		b = append(b, h.Comment+"\x00"...)
	}
	if h.Sum {
		b = binary.LittleEndian.AppendUint16(b, uint16(crc32.ChecksumIEEE(b)))
	}
	return b
}

// defined is what the chapter's words say of bytes: the head with which they begin, how many bytes it has, and whether its sum is another one, if there is a head.
func defined(b []byte) (h api.Head, used int, wrong, ok bool) {
	if len(b) < 10 || b[0] != 0x1f || b[1] != 0x8b || b[2] != 8 || b[3] >= 32 {
		return api.Head{}, 0, false, false
	}
	none := api.Head{}
	flags := b[3]
	h = api.Head{Text: flags&1 == 1, Sum: flags&2 == 2, Has: flags / 4, Time: binary.LittleEndian.Uint32(b[4:]), Xfl: b[8], Os: b[9]}
	left := b[10:]
	if flags&4 != 0 {
		if len(left) < 2 || len(left)-2 < int(left[0])+256*int(left[1]) {
			return none, 0, false, false
		}
		n := 2 + int(left[0]) + 256*int(left[1])
		h.Extra, left = left[2:n], left[n:]
	}
	for _, x := range []struct {
		flag byte
		text *string
	}{{8, &h.Name}, {16, &h.Comment}} {
		if flags&x.flag == 0 {
			continue
		}
		text, behind, ends := bytes.Cut(left, []byte{0})
		if !ends {
			return none, 0, false, false
		}
		*x.text, left = string(text), behind
	}
	if h.Sum {
		if len(left) < 2 {
			return none, 0, false, false
		}
		sum := crc32.ChecksumIEEE(b[:len(b)-len(left)])
		wrong = int(left[0])+256*int(left[1]) != int(sum%65536)
		left = left[2:]
	}
	return h, len(b) - len(left), wrong, true
}

// same tells whether two heads are the same. An Extra of no bytes is nil or empty.
func same(g, h api.Head) bool {
	if !bytes.Equal(g.Extra, h.Extra) {
		return false
	}
	g.Extra, h.Extra = nil, nil
	return reflect.DeepEqual(g, h)
}

// isZero tells whether a head has nothing.
func isZero(h api.Head) bool { return same(h, api.Head{}) }

func roughBytes(r *rand.Rand, n int) []byte {
	b := make([]byte, n)
	for i := range b {
		b[i] = byte(r.IntN(256))
	}
	return b
}

// roughText is n bytes, none of which is 0.
func roughText(r *rand.Rand, n int) string {
	b := make([]byte, n)
	for i := range b {
		b[i] = byte(1 + r.IntN(255))
	}
	return string(b)
}

// roughHead is a head that may be, with no more than most bytes in each of its fields.
func roughHead(r *rand.Rand, most int) api.Head {
	h := api.Head{Text: r.IntN(2) == 0, Sum: r.IntN(2) == 0, Has: uint8(r.IntN(8)), Time: r.Uint32(), Xfl: uint8(r.IntN(256)), Os: uint8(r.IntN(256))}
	if h.Has&hasExtra != 0 {
		h.Extra = roughBytes(r, r.IntN(most+1))
	}
	if h.Has&hasName != 0 {
		h.Name = roughText(r, r.IntN(most+1))
	}
	if h.Has&hasComment != 0 {
		h.Comment = roughText(r, r.IntN(most+1))
	}
	return h
}

// eachMixture goes through heads of every Has that may be, with Text and Sum and without, whose fields have these bytes.
func eachMixture(extra, name, comment string, do func(h api.Head)) {
	for has := range uint8(8) {
		for both := range 4 {
			h := api.Head{Has: has, Text: both&1 != 0, Sum: both&2 != 0, Time: 0x81726354, Xfl: 2, Os: 3}
			if has&hasExtra != 0 {
				h.Extra = []byte(extra)
			}
			if has&hasName != 0 {
				h.Name = name
			}
			if has&hasComment != 0 {
				h.Comment = comment
			}
			do(h)
		}
	}
}
