package code

import (
	"bytes"
	"errors"
	"math"
	"slices"
	"strings"
	"testing"

	"isochron/api"
)

func instr(op, a, b, c int) api.Instr { return api.Instr{Op: op, A: a, B: b, C: c} }

// row is what the document says of a kind: its name, and what A, B and C are: r a register, n a number of 32 bits, p a place, 0 nothing but 0.
type row struct {
	op     int
	name   string
	fields string
}

func rows() []row {
	return []row{
		{0, "halt", "000"}, {1, "set", "rn0"}, {2, "move", "rr0"}, {3, "add", "rrr"}, {4, "sub", "rrr"}, {5, "mul", "rrr"},
		{6, "div", "rrr"}, {7, "mod", "rrr"}, {8, "less", "rrr"}, {9, "same", "rrr"}, {10, "jump", "p00"}, {11, "zero", "rp0"},
		{12, "send", "rrr"}, {13, "draw", "rr0"}, {14, "value", "r00"}, {15, "time", "r00"}, {16, "self", "r00"},
	}
}

// fieldMayBe tells whether x may be in a field of that sort, in a program of n instructions.
func fieldMayBe(sort byte, x, n int) bool {
	switch sort {
	case 'r':
		return x >= 0 && x <= 15
	case 'n':
		return x >= -1<<31 && x <= 1<<31-1
	case 'p':
		return x >= 0 && x <= n
	}
	return x == 0
}

func mayBe(i api.Instr, n int) bool {
	for _, r := range rows() {
		if r.op == i.Op {
			return fieldMayBe(r.fields[0], i.A, n) && fieldMayBe(r.fields[1], i.B, n) && fieldMayBe(r.fields[2], i.C, n)
		}
	}
	return false
}

// bytesMayBe tells it of nine bytes, read straight off the document's list of them.
func bytesMayBe(b []byte, n int) bool {
	if b[7] != 0 || b[8] != 0 {
		return false
	}
	word := int(b[2])<<24 + int(b[3])<<16 + int(b[4])<<8 + int(b[5])
	if word >= 1<<31 {
		word -= 1 << 32
	}
	if b[0] == 10 {
		return b[1] == 0 && word >= 0 && word <= n && b[6] == 0
	}
	return mayBe(instr(int(b[0]), int(b[1]), word, int(b[6])), n)
}

// edges are the numbers at which the document changes what is answered in a program of n instructions, their neighbours, such as would fit if they were cut to 8 or 32 bits, and the ends of int.
func edges(n int) []int {
	return []int{
		math.MinInt, -1 << 32, -1<<31 - 1, -1 << 31, -256, -16, -2, -1, 0, 1, 2, 7, 14, 15, 16, 17, n - 1, n, n + 1,
		255, 256, 257, 256 + 15, 1<<31 - 1, 1 << 31, 1 << 32, 1<<32 + 5, 1 << 40, math.MaxInt,
	}
}

// fieldsThatMayBe are the edges that may be in a field of that sort, each once.
func fieldsThatMayBe(sort byte, n int) []int {
	l := slices.DeleteFunc(edges(n), func(x int) bool { return !fieldMayBe(sort, x, n) })
	slices.Sort(l)
	return slices.Compact(l)
}

// instructionsThatMayBe are those of all edges, of every kind, for a program of n.
func instructionsThatMayBe(n int) []api.Instr {
	var l []api.Instr
	for _, r := range rows() {
		for _, a := range fieldsThatMayBe(r.fields[0], n) {
			for _, b := range fieldsThatMayBe(r.fields[1], n) {
				for _, c := range fieldsThatMayBe(r.fields[2], n) {
					l = append(l, instr(r.op, a, b, c))
				}
			}
		}
	}
	return l
}

// program is n instructions that may be, of many kinds and numbers: others for another from.
func program(n, from int) []api.Instr {
	choice := instructionsThatMayBe(n)
	l := make([]api.Instr, n)
	for k := range l {
		l[k] = choice[(from+k*37)%len(choice)]
	}
	return l
}

// padded is a program of n in which all others than the one at the place are halts.
func padded(i api.Instr, n, place int) []api.Instr {
	l := make([]api.Instr, n)
	l[place] = i
	return l
}

// ordinary has an instruction of every kind.
func ordinary() []api.Instr {
	return []api.Instr{
		instr(api.OpSet, 1, 5, 0), instr(api.OpMove, 2, 1, 0), instr(api.OpAdd, 3, 2, 1), instr(api.OpSub, 4, 3, 2), instr(api.OpMul, 5, 4, 3),
		instr(api.OpDiv, 6, 5, 4), instr(api.OpMod, 7, 6, 5), instr(api.OpLess, 8, 7, 6), instr(api.OpSame, 9, 8, 7), instr(api.OpJump, 11, 0, 0),
		instr(api.OpZero, 9, 17, 0), instr(api.OpSend, 10, 9, 8), instr(api.OpDraw, 11, 10, 0), instr(api.OpValue, 12, 0, 0), instr(api.OpTime, 13, 0, 0),
		instr(api.OpSelf, 14, 0, 0), instr(api.OpHalt, 0, 0, 0),
	}
}

// ordinaryBytes are those of ordinary, written out by hand.
func ordinaryBytes() []byte {
	return []byte{
		1, 1, 0, 0, 0, 5, 0, 0, 0,
		2, 2, 0, 0, 0, 1, 0, 0, 0,
		3, 3, 0, 0, 0, 2, 1, 0, 0,
		4, 4, 0, 0, 0, 3, 2, 0, 0,
		5, 5, 0, 0, 0, 4, 3, 0, 0,
		6, 6, 0, 0, 0, 5, 4, 0, 0,
		7, 7, 0, 0, 0, 6, 5, 0, 0,
		8, 8, 0, 0, 0, 7, 6, 0, 0,
		9, 9, 0, 0, 0, 8, 7, 0, 0,
		10, 0, 0, 0, 0, 11, 0, 0, 0,
		11, 9, 0, 0, 0, 17, 0, 0, 0,
		12, 10, 0, 0, 0, 9, 8, 0, 0,
		13, 11, 0, 0, 0, 10, 0, 0, 0,
		14, 12, 0, 0, 0, 0, 0, 0, 0,
		15, 13, 0, 0, 0, 0, 0, 0, 0,
		16, 14, 0, 0, 0, 0, 0, 0, 0,
		0, 0, 0, 0, 0, 0, 0, 0, 0,
	}
}

// P3.1: Check of single instructions, alone in their program.
func TestCheckOne(t *testing.T) {
	for _, c := range []struct {
		i    api.Instr
		want api.Errno
	}{
		{instr(0, 0, 0, 0), api.OK},
		{instr(0, 1, 0, 0), api.ErrProg},
		{instr(0, 0, -1, 0), api.ErrProg},
		{instr(0, 0, 0, 1), api.ErrProg},

		{instr(1, 0, -1<<31, 0), api.OK},
		{instr(1, 15, 1<<31-1, 0), api.OK},
		{instr(1, 0, -1<<31-1, 0), api.ErrProg},
		{instr(1, 15, 1<<31, 0), api.ErrProg},
		{instr(1, 0, math.MinInt, 0), api.ErrProg},
		{instr(1, 0, math.MaxInt, 0), api.ErrProg},
		{instr(1, 16, 0, 0), api.ErrProg},
		{instr(1, -1, 0, 0), api.ErrProg},
		{instr(1, 0, 0, 1), api.ErrProg},

		{instr(2, 0, 15, 0), api.OK},
		{instr(2, 15, 0, 0), api.OK},
		{instr(2, 16, 0, 0), api.ErrProg},
		{instr(2, 0, 16, 0), api.ErrProg},
		{instr(2, 0, 0, 1), api.ErrProg},

		{instr(3, 15, 15, 15), api.OK},
		{instr(9, 0, 0, 0), api.OK},
		{instr(12, 15, 0, 15), api.OK},
		{instr(12, 16, 0, 0), api.ErrProg},
		{instr(12, 0, -1, 0), api.ErrProg},
		{instr(12, 0, 0, 16), api.ErrProg},
		{instr(7, 0, 0, -1), api.ErrProg},

		{instr(10, 0, 0, 0), api.OK},
		{instr(10, 1, 0, 0), api.OK},
		{instr(10, 2, 0, 0), api.ErrProg},
		{instr(10, -1, 0, 0), api.ErrProg},
		{instr(10, 0, 1, 0), api.ErrProg},
		{instr(10, 0, 0, 1), api.ErrProg},
		{instr(10, 1<<32, 0, 0), api.ErrProg},

		{instr(11, 15, 0, 0), api.OK},
		{instr(11, 0, 1, 0), api.OK},
		{instr(11, 0, 2, 0), api.ErrProg},
		{instr(11, 0, -1, 0), api.ErrProg},
		{instr(11, 16, 0, 0), api.ErrProg},
		{instr(11, 0, 0, 1), api.ErrProg},

		{instr(13, 0, 15, 0), api.OK},
		{instr(13, 0, 16, 0), api.ErrProg},
		{instr(13, 0, 0, 1), api.ErrProg},
		{instr(14, 15, 0, 0), api.OK},
		{instr(14, 0, 1, 0), api.ErrProg},
		{instr(15, 16, 0, 0), api.ErrProg},
		{instr(16, 15, 0, 0), api.OK},
		{instr(16, 0, 0, 1), api.ErrProg},

		{instr(17, 0, 0, 0), api.ErrProg},
		{instr(-1, 0, 0, 0), api.ErrProg},
		{instr(256, 0, 0, 0), api.ErrProg},
		{instr(math.MinInt, 0, 0, 0), api.ErrProg},
		{instr(math.MaxInt, 0, 0, 0), api.ErrProg},
	} {
		if got := Check([]api.Instr{c.i}); got != c.want {
			t.Errorf("Check(%v) = %d, want %d", c.i, got, c.want)
		}
	}
}

// P3.1: Check at all edges of all fields together, of every kind and of such as are none, at the ends of a program and within it.
func TestCheckAtAllEdges(t *testing.T) {
	ops := []int{math.MinInt, -256, -2, -1, 17, 18, 255, 256, 257, 1 << 32, math.MaxInt}
	for _, r := range rows() {
		ops = append(ops, r.op)
	}
	for _, n := range []int{1, 20} {
		for _, op := range ops {
			for _, a := range edges(n) {
				for _, b := range edges(n) {
					for _, c := range edges(n) {
						i, want := instr(op, a, b, c), api.ErrProg
						if mayBe(i, n) {
							want = api.OK
						}
						place := ((a ^ b ^ c) & math.MaxInt) % n
						if got := Check(padded(i, n, place)); got != want {
							t.Fatalf("Check(%v) at %d of %d = %d, want %d", i, place, n, got, want)
						}
					}
				}
			}
		}
	}
}

// P3.1: what can't be is found wherever it stands, whatever stands beside it.
func TestCheckLooksAtAll(t *testing.T) {
	for _, n := range []int{1, 2, 17, api.MaxCode} {
		good := program(n, 3)
		if e := Check(good); e != api.OK {
			t.Fatalf("Check of %d that may be = %d", n, e)
		}
		for at := range n {
			l := slices.Clone(good)
			l[at] = instr(api.OpMove, 16, 0, 0)
			if e := Check(l); e != api.ErrProg {
				t.Fatalf("Check of %d, of which that at %d can't be, = %d", n, at, e)
			}
		}
	}
}

// P3.1: how many instructions there may be, and P2: ErrLong is named ahead of ErrProg.
func TestCheckLong(t *testing.T) {
	bad := instr(17, 0, 0, 0)
	for _, c := range []struct {
		name string
		l    []api.Instr
		want api.Errno
	}{
		{"nil", nil, api.OK},
		{"empty", []api.Instr{}, api.OK},
		{"every kind", ordinary(), api.OK},
		{"one less than MaxCode", make([]api.Instr, api.MaxCode-1), api.OK},
		{"MaxCode", make([]api.Instr, api.MaxCode), api.OK},
		{"MaxCode of many kinds", program(api.MaxCode, 0), api.OK},
		{"MaxCode, a bad one last", padded(bad, api.MaxCode, api.MaxCode-1), api.ErrProg},
		{"one more", make([]api.Instr, api.MaxCode+1), api.ErrLong},
		{"one more, a bad one first", padded(bad, api.MaxCode+1, 0), api.ErrLong},
		{"many more", make([]api.Instr, 1<<16), api.ErrLong},
	} {
		if got := Check(c.l); got != c.want {
			t.Errorf("%s: Check = %d, want %d", c.name, got, c.want)
		}
	}
}

// P3.1: a place is 0 to the program's end, in programs of every length.
func TestPlaces(t *testing.T) {
	for _, n := range []int{1, 2, 3, 9, 16, 128, 255, api.MaxCode} {
		for _, place := range []int{math.MinInt, -1, 0, 1, n - 1, n, n + 1, 1 << 31, 1 << 32, math.MaxInt} {
			want := api.ErrProg
			if place >= 0 && place <= n {
				want = api.OK
			}
			for _, i := range []api.Instr{instr(api.OpJump, place, 0, 0), instr(api.OpZero, 15, place, 0)} {
				if got := Check(padded(i, n, n/2)); got != want {
					t.Errorf("Check(%v) in %d = %d, want %d", i, n, got, want)
				}
			}
		}
	}
}

// P3.1: the bytes of ordinary programs.
func TestEncode(t *testing.T) {
	for _, c := range []struct {
		l    []api.Instr
		want string
	}{
		{nil, ""},
		{[]api.Instr{}, ""},
		{[]api.Instr{instr(1, 1, 5, 0)}, "\x01\x01\x00\x00\x00\x05\x00\x00\x00"},
		{[]api.Instr{instr(1, 15, -1, 0)}, "\x01\x0f\xff\xff\xff\xff\x00\x00\x00"},
		{[]api.Instr{instr(1, 0, -1<<31, 0)}, "\x01\x00\x80\x00\x00\x00\x00\x00\x00"},
		{[]api.Instr{instr(1, 0, 1<<31-1, 0)}, "\x01\x00\x7f\xff\xff\xff\x00\x00\x00"},
		{[]api.Instr{instr(1, 0, 0x01020304, 0)}, "\x01\x00\x01\x02\x03\x04\x00\x00\x00"},
		{[]api.Instr{instr(3, 15, 14, 13)}, "\x03\x0f\x00\x00\x00\x0e\x0d\x00\x00"},
		{[]api.Instr{instr(10, 0, 0, 0)}, "\x0a\x00\x00\x00\x00\x00\x00\x00\x00"},
		{[]api.Instr{instr(10, 1, 0, 0)}, "\x0a\x00\x00\x00\x00\x01\x00\x00\x00"},
		{[]api.Instr{instr(11, 15, 1, 0)}, "\x0b\x0f\x00\x00\x00\x01\x00\x00\x00"},
		{ordinary(), string(ordinaryBytes())},
	} {
		b, e := Encode(c.l)
		if string(b) != c.want || e != api.OK {
			t.Errorf("Encode(%v) = %x, %d, want %x", c.l, b, e, c.want)
		}
	}
}

// P3.1: the last place of the longest program, which one byte could not hold.
func TestEncodeTheLongest(t *testing.T) {
	l := make([]api.Instr, api.MaxCode)
	l[0], l[1] = instr(api.OpJump, api.MaxCode, 0, 0), instr(api.OpZero, 15, api.MaxCode, 0)
	b, e := Encode(l)
	want := append([]byte{10, 0, 0, 0, 1, 0, 0, 0, 0, 11, 15, 0, 0, 1, 0, 0, 0, 0}, make([]byte, 9*(api.MaxCode-2))...)
	if !bytes.Equal(b, want) || e != api.OK {
		t.Errorf("Encode = %d bytes, %d, beginning with %x", len(b), e, b[:min(18, len(b))])
	}
	x, n, e := Decode(want)
	if !slices.Equal(x, l) || n != 9*api.MaxCode || e != api.OK {
		t.Errorf("Decode = %d instructions, %d, %d", len(x), n, e)
	}
}

// P3.1: Encode refuses what Check refuses, and P2: beside an error there are no bytes.
func TestEncodeRefuses(t *testing.T) {
	bad := instr(api.OpAdd, 0, 0, 16)
	for _, c := range []struct {
		l    []api.Instr
		want api.Errno
	}{
		{[]api.Instr{bad}, api.ErrProg},
		{append(ordinary(), bad), api.ErrProg},
		{append([]api.Instr{bad}, ordinary()...), api.ErrProg},
		{[]api.Instr{instr(1, 0, 1<<32, 0)}, api.ErrProg},
		{[]api.Instr{instr(256, 0, 0, 0)}, api.ErrProg},
		{[]api.Instr{instr(10, 2, 0, 0)}, api.ErrProg},
		{padded(bad, api.MaxCode, api.MaxCode-1), api.ErrProg},
		{make([]api.Instr, api.MaxCode+1), api.ErrLong},
		{padded(bad, api.MaxCode+1, 0), api.ErrLong},
	} {
		b, e := Encode(c.l)
		if len(b) != 0 || e != c.want || Check(c.l) != c.want {
			t.Errorf("Encode of %d = %x, %d, want no bytes, %d", len(c.l), b, e, c.want)
		}
	}
}

// P3.1: Decode of bytes, and P2: beside an error there is no program; ErrLong is named ahead of ErrShort, and that ahead of ErrForm.
func TestDecode(t *testing.T) {
	good, bad := string(ordinaryBytes()), "\x11\x00\x00\x00\x00\x00\x00\x00\x00"
	halt, most := strings.Repeat("\x00", 9), strings.Repeat("\x00", 9*api.MaxCode)
	for _, c := range []struct {
		name string
		b    string
		l    []api.Instr
		n    int
		e    api.Errno
	}{
		{"no byte at all", "", nil, 0, api.OK},
		{"halt", halt, make([]api.Instr, 1), 9, api.OK},
		{"every kind", good, ordinary(), len(good), api.OK},
		{"a number below 0", "\x01\x0f\xff\xff\xff\xfb\x00\x00\x00", []api.Instr{instr(1, 15, -5, 0)}, 9, api.OK},
		{"the least number", "\x01\x00\x80\x00\x00\x00\x00\x00\x00", []api.Instr{instr(1, 0, -1<<31, 0)}, 9, api.OK},
		{"the greatest number", "\x01\x00\x7f\xff\xff\xff\x00\x00\x00", []api.Instr{instr(1, 0, 1<<31-1, 0)}, 9, api.OK},
		{"the most bytes", most, make([]api.Instr, api.MaxCode), 9 * api.MaxCode, api.OK},

		{"one byte", "\x00", nil, 0, api.ErrShort},
		{"eight bytes", halt[1:], nil, 0, api.ErrShort},
		{"ten bytes", halt + "\x00", nil, 9, api.ErrShort},
		{"17 bytes", halt + halt[1:], nil, 9, api.ErrShort},
		{"19 bytes", halt + halt + "\x01", nil, 18, api.ErrShort},
		{"one byte less than the most", most[1:], nil, 9 * (api.MaxCode - 1), api.ErrShort},
		{"too few, and a bad one first", bad + "\x00", nil, 9, api.ErrShort},
		{"every kind, and a bad byte", good + "\xff", nil, len(good), api.ErrShort},

		{"one byte more than the most", most + "\x00", nil, 0, api.ErrLong},
		{"one instruction more", most + halt, nil, 0, api.ErrLong},
		{"a bad one, and too many", bad + most, nil, 0, api.ErrLong},
		{"far more", most + most, nil, 0, api.ErrLong},

		{"a bad one", bad, nil, 0, api.ErrForm},
		{"a bad one last", good + bad, nil, len(good), api.ErrForm},
		{"a bad one first", bad + good, nil, 0, api.ErrForm},
		{"two bad ones", halt + halt + bad + halt + bad, nil, 18, api.ErrForm},
		{"the last of the most", most[9:] + bad, nil, 9 * (api.MaxCode - 1), api.ErrForm},
		{"a last byte that is not 0", halt[1:] + "\x01", nil, 0, api.ErrForm},
		{"a last but one that is not 0", "\x02\x01\x00\x00\x00\x01\x00\x01\x00", nil, 0, api.ErrForm},
		{"register 16", "\x02\x10\x00\x00\x00\x01\x00\x00\x00", nil, 0, api.ErrForm},
		{"register 255", "\x02\xff\x00\x00\x00\x01\x00\x00\x00", nil, 0, api.ErrForm},
		{"register 256 as B", "\x02\x01\x00\x00\x01\x00\x00\x00\x00", nil, 0, api.ErrForm},
		{"register -1 as B", "\x02\x01\xff\xff\xff\xff\x00\x00\x00", nil, 0, api.ErrForm},
		{"register 16 as C", "\x03\x01\x00\x00\x00\x01\x10\x00\x00", nil, 0, api.ErrForm},
		{"set with a C", "\x01\x01\x00\x00\x00\x01\x01\x00\x00", nil, 0, api.ErrForm},
		{"halt with an A", "\x00\x01\x00\x00\x00\x00\x00\x00\x00", nil, 0, api.ErrForm},
		{"value with a B", "\x0e\x01\x00\x00\x00\x01\x00\x00\x00", nil, 0, api.ErrForm},
		{"a jump with A's byte", "\x0a\x01\x00\x00\x00\x00\x00\x00\x00", nil, 0, api.ErrForm},
		{"a jump with A's byte too", "\x0a\x01\x00\x00\x00\x01\x00\x00\x00", nil, 0, api.ErrForm},
		{"a jump with a C", "\x0a\x00\x00\x00\x00\x01\x01\x00\x00", nil, 0, api.ErrForm},
		{"a jump to the end", "\x0a\x00\x00\x00\x00\x01\x00\x00\x00", []api.Instr{instr(10, 1, 0, 0)}, 9, api.OK},
		{"a jump behind the end", "\x0a\x00\x00\x00\x00\x02\x00\x00\x00", nil, 0, api.ErrForm},
		{"a jump below 0", "\x0a\x00\xff\xff\xff\xff\x00\x00\x00", nil, 0, api.ErrForm},
		{"the same jump, two instructions", halt + "\x0a\x00\x00\x00\x00\x02\x00\x00\x00", []api.Instr{{}, instr(10, 2, 0, 0)}, 18, api.OK},
		{"a jump on, of which more must be there", "\x0a\x00\x00\x00\x00\x02\x00\x00\x00" + halt, []api.Instr{instr(10, 2, 0, 0), {}}, 18, api.OK},
		{"zero behind the end", halt + "\x0b\x00\x00\x00\x00\x03\x00\x00\x00", nil, 9, api.ErrForm},
	} {
		l, n, e := Decode([]byte(c.b))
		if !slices.Equal(l, c.l) || n != c.n || e != c.e {
			t.Errorf("%s: Decode = %v, %d, %d, want %v, %d, %d", c.name, l, n, e, c.l, c.n, c.e)
		}
	}
	if l, n, e := Decode(nil); len(l) != 0 || n != 0 || e != api.OK {
		t.Errorf("Decode(nil) = %v, %d, %d", l, n, e)
	}
}

// P3.1: at every number of bytes, Decode tells where the last instruction begins.
func TestDecodeAtAllLengths(t *testing.T) {
	for k := range 9*api.MaxCode + 30 {
		l, n, e := Decode(make([]byte, k))
		wantLength, wantN, wantE := 0, k/9*9, api.ErrShort
		if k > 9*api.MaxCode {
			wantN, wantE = 0, api.ErrLong
		} else if k%9 == 0 {
			wantLength, wantE = k/9, api.OK
		}
		if len(l) != wantLength || n != wantN || e != wantE {
			t.Fatalf("Decode of %d bytes = %d instructions, %d, %d, want %d, %d, %d", k, len(l), n, e, wantLength, wantN, wantE)
		}
	}
}

// P3.1 and P3.3: of every kind, each byte changed to each other one, alone and with a second one: refused, or what Encode gives again.
func TestDecodeEveryByte(t *testing.T) {
	for _, r := range rows() {
		for place := range 9 {
			for x := range 256 {
				for second := range 9 {
					b := []byte{byte(r.op), 0, 0, 0, 0, 0, 0, 0, 0}
					b[second] |= 1
					b[place] = byte(x)
					whole := append(make([]byte, 18), b...)
					l, n, e := Decode(whole)
					if !bytesMayBe(b, 3) {
						if len(l) != 0 || n != 18 || e != api.ErrForm {
							t.Fatalf("Decode(%x) = %v, %d, %d, want ErrForm", whole, l, n, e)
						}
						continue
					}
					again, encodeE := Encode(l)
					if len(l) != 3 || n != 27 || e != api.OK || !bytes.Equal(again, whole) || encodeE != api.OK {
						t.Fatalf("Decode(%x) = %v, %d, %d, and Encode of it %x, %d", whole, l, n, e, again, encodeE)
					}
				}
			}
		}
	}
}

// P3.3: every instruction that may be comes back, and from no two of them come the same bytes.
func TestDecodeUndoesEncode(t *testing.T) {
	for _, n := range []int{1, 2, 20, api.MaxCode} {
		seen := map[string]api.Instr{}
		for _, i := range instructionsThatMayBe(n) {
			l := padded(i, n, n-1)
			b, e := Encode(l)
			if len(b) != 9*n || e != api.OK {
				t.Fatalf("Encode(%v) in %d = %d bytes, %d", i, n, len(b), e)
			}
			x, read, e := Decode(b)
			if !slices.Equal(x, l) || read != len(b) || e != api.OK {
				t.Fatalf("%v in %d comes back as %v, %d, %d", i, n, x, read, e)
			}
			if other, there := seen[string(b)]; there {
				t.Fatalf("%v and %v have the same bytes", i, other)
			}
			seen[string(b)] = i
		}
	}
}

// P3.3: programs of every length come back, and their bytes.
func TestWholeProgramsComeBack(t *testing.T) {
	for _, n := range []int{0, 1, 2, 3, 17, 100, 255, api.MaxCode} {
		for _, from := range []int{0, 1, 50, 333} {
			l := program(n, from)
			b, e := Encode(l)
			if len(b) != 9*n || e != api.OK {
				t.Fatalf("Encode of %d = %d bytes, %d", n, len(b), e)
			}
			x, read, e := Decode(b)
			if !slices.Equal(x, l) || read != 9*n || e != api.OK {
				t.Fatalf("%d from %d do not come back: %d, %d", n, from, read, e)
			}
			again, e := Encode(x)
			if !bytes.Equal(again, b) || e != api.OK {
				t.Fatalf("the bytes of %d from %d do not come back: %d", n, from, e)
			}
		}
	}
}

// P3.2: Text, of instructions that may be and of such as may not.
func TestText(t *testing.T) {
	for _, c := range []struct {
		i    api.Instr
		want string
	}{
		{instr(0, 0, 0, 0), "halt"},
		{instr(1, 1, 5, 0), "set 1 5"},
		{instr(1, 15, -1<<31, 0), "set 15 -2147483648"},
		{instr(1, 0, 1<<31-1, 0), "set 0 2147483647"},
		{instr(2, 1, 2, 0), "move 1 2"},
		{instr(3, 1, 2, 3), "add 1 2 3"},
		{instr(4, 0, 0, 0), "sub 0 0 0"},
		{instr(5, 15, 15, 15), "mul 15 15 15"},
		{instr(6, 1, 2, 3), "div 1 2 3"},
		{instr(7, 1, 2, 3), "mod 1 2 3"},
		{instr(8, 1, 2, 3), "less 1 2 3"},
		{instr(9, 1, 2, 3), "same 1 2 3"},
		{instr(10, 256, 0, 0), "jump 256"},
		{instr(11, 3, 7, 0), "zero 3 7"},
		{instr(12, 1, 2, 3), "send 1 2 3"},
		{instr(13, 1, 2, 0), "draw 1 2"},
		{instr(14, 9, 0, 0), "value 9"},
		{instr(15, 9, 0, 0), "time 9"},
		{instr(16, 9, 0, 0), "self 9"},

		{instr(17, 1, 2, 3), "? 1 2 3"},
		{instr(-1, 0, 0, 0), "? 0 0 0"},
		{instr(256, 0, -1, 0), "? 0 -1 0"},
		{instr(math.MinInt, math.MinInt, 0, math.MaxInt), "? -9223372036854775808 0 9223372036854775807"},
		{instr(math.MaxInt, 1, 0, 0), "? 1 0 0"},
		{instr(0, 1, 2, 3), "halt"},
		{instr(10, math.MinInt, 2, 3), "jump -9223372036854775808"},
		{instr(1, 99, math.MaxInt, 3), "set 99 9223372036854775807"},
	} {
		if got := Text(c.i); got != c.want {
			t.Errorf("Text(%v) = %q, want %q", c.i, got, c.want)
		}
	}
}

// P3.2: of every kind Text tells the numbers that may be other than 0, at all edges, and no others.
func TestTextOfEveryKind(t *testing.T) {
	for _, r := range rows() {
		used := len(strings.TrimRight(r.fields, "0"))
		for _, x := range []int{math.MinInt, -1, 0, 1, 16, math.MaxInt} {
			words := strings.Split(Text(instr(r.op, x, -7, 42)), " ")
			want := []string{r.name, strings.TrimPrefix(Text(instr(api.OpJump, x, 0, 0)), "jump "), "-7", "42"}[:1+used]
			if !slices.Equal(words, want) {
				t.Errorf("Text of %s with %d: %q, want %q", r.name, x, words, want)
			}
		}
	}
}

// P4: what is handed in stays as it was, and no answer shares memory with it or with another answer, not even behind its end.
func TestNewMemory(t *testing.T) {
	for _, n := range []int{0, 1, 5} {
		room := append(program(n, 9), instr(1, 1, 1, 0), instr(1, 2, 2, 0))
		want := slices.Clone(room)
		first, _ := Encode(room[:n])
		second, _ := Encode(room[:n])
		wantBytes := slices.Clone(second)
		spoil(first, 77)
		if !slices.Equal(room, want) || !bytes.Equal(second, wantBytes) {
			t.Errorf("Encode of %d: memory is shared", n)
		}

		bytesRoom := append(slices.Clone(wantBytes), 1, 2, 3, 4, 5, 6, 7, 8, 9)
		wantRoom := slices.Clone(bytesRoom)
		one, _, _ := Decode(bytesRoom[:9*n])
		two, _, _ := Decode(bytesRoom[:9*n])
		spoil(one, instr(7, 7, 7, 7))
		if !bytes.Equal(bytesRoom, wantRoom) || !slices.Equal(two, want[:n]) {
			t.Errorf("Decode of %d: memory is shared", n)
		}
		spoil(bytesRoom, 0)
		if !slices.Equal(two, want[:n]) {
			t.Errorf("Decode of %d: what was handed in is kept", n)
		}
	}
}

// spoil writes x into all of l, and into the room behind it.
func spoil[T any](l []T, x T) {
	l = l[:cap(l)]
	for i := range l {
		l[i] = x
	}
}

// Every flaw is found by errors.Is, and says what it is.
func TestFlaws(t *testing.T) {
	for _, i := range []api.Instr{
		instr(17, 0, 0, 0), instr(0, 1, 0, 0), instr(1, 16, 0, 0), instr(2, 16, 0, 0), instr(2, 0, 16, 0),
		instr(3, 0, 0, 16), instr(10, 2, 0, 0), instr(11, 16, 0, 0), instr(11, 0, 2, 0),
	} {
		err := flawOf(i, 1)
		if !errors.Is(err, errCannotBe) || !strings.HasPrefix(err.Error(), errCannotBe.Error()+": ") {
			t.Errorf("%v: %v", i, err)
		}
	}
	for _, i := range ordinary() {
		if err := flawOf(i, len(ordinary())); err != nil {
			t.Errorf("%v: %v", i, err)
		}
	}
}
