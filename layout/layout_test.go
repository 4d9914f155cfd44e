package layout

import (
	"math"
	"reflect"
	"slices"
	"strings"
	"testing"

	"loanbook/api"
)

// Temporaries of the programs below: two of each kind, so that a field's kind and its number can be wrong apart from each other.
const (
	n0 = 0
	w0 = 1
	n1 = 2
	w1 = 3
)

func temps() []bool { return []bool{false, true, false, true} }

// with is a program of three instructions, the middle one given: fields may lead ahead, back and to itself.
func with(i api.Ins) api.Prog {
	return api.Prog{Wide: temps(), Code: []api.Ins{{Op: api.XHalt}, i, {Op: api.XHalt}}}
}

func expect(t *testing.T, p api.Prog, want bool, why string) {
	t.Helper()
	if got := May(p); got != want {
		t.Errorf("May(%v) = %v, want %v: %s", p, got, want, why)
	}
}

// rows is the table of B1, in the document's own words, read by the tests apart from the program.
var rows = []struct {
	ops    []int
	fields string
}{
	{[]int{api.XConst}, "Dest n, N"},
	{[]int{api.XMove}, "Dest x, A x"},
	{[]int{api.XIn}, "Dest n"},
	{[]int{api.XOut}, "A n"},
	{[]int{api.XPair}, "Dest w, A n, B n"},
	{[]int{api.XLow, api.XHigh}, "Dest n, A w"},
	{[]int{api.XJump}, "C the number of an instruction"},
	{[]int{api.XIf}, "A n, C likewise"},
	{[]int{api.XHalt}, ""},
	{[]int{21, 22, 23, 24, 25, 26}, "Dest n, A n, B n"},
	{[]int{41, 42, 43, 44, 45}, "Dest w, A w, B w"},
}

// rowOf gives an op's fields by name, with "n", "w", "x" or, of C and N, other words.
func rowOf(op int) (map[string]string, bool) {
	for _, r := range rows {
		if !slices.Contains(r.ops, op) {
			continue
		}
		named := map[string]string{}
		for _, f := range strings.Split(r.fields, ", ") {
			name, what, _ := strings.Cut(f, " ")
			if name != "" {
				named[name] = what
			}
		}
		return named, true
	}
	return nil, false
}

// byTable tells by the table whether an instruction may stand in a program.
func byTable(p api.Prog, i api.Ins) bool {
	named, known := rowOf(i.Op)
	if !known {
		return false
	}
	var ofX []bool
	for name, v := range map[string]int{"Dest": i.Dest, "A": i.A, "B": i.B} {
		what, isNamed := named[name]
		if !isNamed {
			if v != 0 {
				return false
			}
			continue
		}
		if v < 0 || v >= len(p.Wide) {
			return false
		}
		if what == "n" && p.Wide[v] || what == "w" && !p.Wide[v] {
			return false
		}
		if what == "x" {
			ofX = append(ofX, p.Wide[v])
		}
	}
	if len(ofX) == 2 && ofX[0] != ofX[1] {
		return false
	}
	if _, isNamed := named["C"]; isNamed && (i.C < 0 || i.C >= len(p.Code)) || !isNamed && i.C != 0 {
		return false
	}
	_, isNamed := named["N"]
	return isNamed || i.N == 0
}

func TestEachRowMayBe(t *testing.T) {
	for _, i := range []api.Ins{
		{Op: api.XConst, Dest: n0},
		{Op: api.XConst, Dest: n1, N: 7},
		{Op: api.XConst, Dest: n1, N: math.MaxUint32},
		{Op: api.XConst, Dest: n1, N: 1 << 31},
		{Op: api.XMove, Dest: n0, A: n1},
		{Op: api.XMove, Dest: n1, A: n1},
		{Op: api.XMove, Dest: w0, A: w1},
		{Op: api.XMove, Dest: w1, A: w1},
		{Op: api.XIn, Dest: n0},
		{Op: api.XIn, Dest: n1},
		{Op: api.XOut, A: n0},
		{Op: api.XOut, A: n1},
		{Op: api.XPair, Dest: w0, A: n0, B: n1},
		{Op: api.XPair, Dest: w1, A: n1, B: n1},
		{Op: api.XLow, Dest: n0, A: w1},
		{Op: api.XLow, Dest: n1, A: w0},
		{Op: api.XHigh, Dest: n0, A: w1},
		{Op: api.XHigh, Dest: n1, A: w0},
		{Op: api.XJump, C: 0},
		{Op: api.XJump, C: 1},
		{Op: api.XJump, C: 2},
		{Op: api.XIf, A: n0, C: 0},
		{Op: api.XIf, A: n1, C: 1},
		{Op: api.XIf, A: n1, C: 2},
		{Op: api.XHalt},
		{Op: api.XOp + api.OpAdd, Dest: n0, A: n1, B: n0},
		{Op: api.XOp + api.OpSub, Dest: n1, A: n1, B: n1},
		{Op: api.XOp + api.OpMul, Dest: n1, A: n0, B: n0},
		{Op: api.XOp + api.OpAnd, Dest: n0, A: n0, B: n1},
		{Op: api.XOp + api.OpXor, Dest: n0, A: n0, B: n0},
		{Op: api.XOp + api.OpLess, Dest: n1, A: n0, B: n1},
		{Op: api.XWide + api.OpAdd, Dest: w0, A: w1, B: w0},
		{Op: api.XWide + api.OpSub, Dest: w1, A: w1, B: w1},
		{Op: api.XWide + api.OpMul, Dest: w1, A: w0, B: w0},
		{Op: api.XWide + api.OpAnd, Dest: w0, A: w0, B: w1},
		{Op: api.XWide + api.OpXor, Dest: w0, A: w0, B: w0},
	} {
		expect(t, with(i), true, "a row of the table")
	}
}

// good has an instruction of each op that may stand in with's program, its fields as far from 0 as they go, so that one thing changed is all that is wrong.
func good() []api.Ins {
	list := []api.Ins{
		{Op: api.XConst, Dest: n1, N: 7},
		{Op: api.XMove, Dest: n1, A: n1},
		{Op: api.XMove, Dest: w1, A: w1},
		{Op: api.XIn, Dest: n1},
		{Op: api.XOut, A: n1},
		{Op: api.XPair, Dest: w1, A: n1, B: n1},
		{Op: api.XLow, Dest: n1, A: w1},
		{Op: api.XHigh, Dest: n1, A: w1},
		{Op: api.XJump, C: 2},
		{Op: api.XIf, A: n1, C: 2},
		{Op: api.XHalt},
	}
	for op := api.OpAdd; op <= api.OpLess; op++ {
		list = append(list, api.Ins{Op: api.XOp + op, Dest: n1, A: n1, B: n1})
	}
	for op := api.OpAdd; op <= api.OpXor; op++ {
		list = append(list, api.Ins{Op: api.XWide + op, Dest: w1, A: w1, B: w1})
	}
	return list
}

// fieldOf points at a field by name; N is of another type, and is asked apart.
func fieldOf(i *api.Ins, name string) *int {
	switch name {
	case "Dest":
		return &i.Dest
	case "A":
		return &i.A
	case "B":
		return &i.B
	}
	return &i.C
}

func TestGoodOnesMayBe(t *testing.T) {
	for _, i := range good() {
		expect(t, with(i), true, "what the tests below start from")
	}
}

func TestTempsOfTheWrongWidth(t *testing.T) {
	other := map[int]int{n1: w1, w1: n1}
	for _, i := range good() {
		named, _ := rowOf(i.Op)
		for _, name := range []string{"Dest", "A", "B"} {
			if _, isNamed := named[name]; !isNamed {
				continue
			}
			// Of XMove, this makes the two x of two kinds.
			f := fieldOf(&i, name)
			was := *f
			*f = other[was]
			expect(t, with(i), false, name+" is of the wrong width")
			*f = was
		}
	}
}

func TestMoveOfTwoKinds(t *testing.T) {
	for _, narrow := range []int{n0, n1} {
		for _, wide := range []int{w0, w1} {
			expect(t, with(api.Ins{Op: api.XMove, Dest: wide, A: narrow}), false, "a narrow one into a wide one")
			expect(t, with(api.Ins{Op: api.XMove, Dest: narrow, A: wide}), false, "a wide one into a narrow one")
		}
	}
}

func TestTempsThatAreNotThere(t *testing.T) {
	for _, i := range good() {
		named, _ := rowOf(i.Op)
		for _, name := range []string{"Dest", "A", "B"} {
			if _, isNamed := named[name]; !isNamed {
				continue
			}
			f := fieldOf(&i, name)
			was := *f
			for _, v := range []int{len(temps()), len(temps()) + 1, 11, 12, -1, -2, math.MaxInt, math.MinInt, was + 1<<8, was + 1<<32} {
				*f = v
				expect(t, with(i), false, name+" is not there")
			}
			*f = was
		}
		if named["Dest"] == "x" {
			for _, v := range []int{len(temps()), -1, math.MaxInt, math.MinInt} {
				expect(t, with(api.Ins{Op: i.Op, Dest: v, A: v}), false, "both are not there")
			}
		}
	}
}

func TestLinesThatAreNotThere(t *testing.T) {
	for _, i := range []api.Ins{{Op: api.XJump}, {Op: api.XIf, A: n1}} {
		for _, c := range []int{3, 4, 39, 40, -1, -2, math.MaxInt, math.MinInt, 1 << 8, 1 << 32} {
			i.C = c
			expect(t, with(i), false, "C is not there")
		}
	}
}

func TestLinesAreCountedInCode(t *testing.T) {
	p := api.Prog{Wide: make([]bool, api.MaxTemps), Code: []api.Ins{{Op: api.XJump}}}
	expect(t, p, true, "the one instruction leads to itself")
	p.Code[0].C = 1
	expect(t, p, false, "there are more temporaries than instructions")
	p = api.Prog{Wide: []bool{false}, Code: make([]api.Ins, api.MaxCode)}
	for k := range p.Code {
		p.Code[k] = api.Ins{Op: api.XIf, C: api.MaxCode - 1 - k}
	}
	expect(t, p, true, "there are more instructions than temporaries")
}

func TestFieldsThatAreNotNamed(t *testing.T) {
	for _, i := range good() {
		named, _ := rowOf(i.Op)
		for _, name := range []string{"Dest", "A", "B", "C"} {
			if _, isNamed := named[name]; isNamed {
				continue
			}
			f := fieldOf(&i, name)
			for _, v := range []int{1, 2, 3, 4, -1, 1 << 8, math.MaxInt, math.MinInt} {
				*f = v
				expect(t, with(i), false, name+" is not named, and is not 0")
			}
			*f = 0
		}
		if _, isNamed := named["N"]; isNamed {
			continue
		}
		for _, v := range []uint32{1, 2, 7, 1 << 8, 1 << 31, math.MaxUint32} {
			i.N = v
			expect(t, with(i), false, "N is not named, and is not 0")
		}
	}
}

func TestOpsThatAreNone(t *testing.T) {
	for op := -100; op <= 300; op++ {
		if _, known := rowOf(op); known {
			continue
		}
		expectNoOp(t, op)
	}
	for _, op := range []int{
		math.MaxInt, math.MinInt, math.MinInt + api.XHalt, math.MaxInt - api.XHalt,
		-api.XHalt, -(api.XOp + api.OpAdd), -(api.XWide + api.OpAdd),
		api.XHalt + 1<<8, api.XHalt + 1<<16, api.XHalt + 1<<32, api.XOp + api.OpAdd + 1<<32,
	} {
		expectNoOp(t, op)
	}
}

// expectNoOp tries the op with the fields of every other one: whatever it might be taken for, it would fit one of them.
func expectNoOp(t *testing.T, op int) {
	t.Helper()
	for _, i := range good() {
		i.Op = op
		expect(t, with(i), false, "there is no such op")
	}
	for _, wide := range []bool{false, true} {
		p := api.Prog{Wide: []bool{wide}, Code: []api.Ins{{Op: op}}}
		expect(t, p, false, "there is no such op")
	}
}

func TestHowManyTemps(t *testing.T) {
	for _, code := range [][]api.Ins{{{Op: api.XHalt}}, {{Op: api.XJump}}} {
		for count := 0; count <= api.MaxTemps+3; count++ {
			p := api.Prog{Wide: make([]bool, count), Code: code}
			expect(t, p, count >= 1 && count <= api.MaxTemps, "as many temporaries as these")
			for k := range p.Wide {
				p.Wide[k] = true
			}
			expect(t, p, count >= 1 && count <= api.MaxTemps, "as many wide temporaries as these")
		}
		expect(t, api.Prog{Wide: nil, Code: code}, false, "no temporaries")
		expect(t, api.Prog{Wide: make([]bool, 1<<16), Code: code}, false, "far too many temporaries")
	}
	last := api.Prog{Wide: make([]bool, api.MaxTemps), Code: []api.Ins{{Op: api.XIn, Dest: api.MaxTemps - 1}}}
	expect(t, last, true, "the last of all temporaries that there may be")
	last.Code[0].Dest = api.MaxTemps
	expect(t, last, false, "one behind it")
}

func TestHowManyInstructions(t *testing.T) {
	for count := 0; count <= api.MaxCode+3; count++ {
		p := api.Prog{Wide: temps(), Code: make([]api.Ins, count)}
		for k := range p.Code {
			p.Code[k] = api.Ins{Op: api.XJump, C: count - 1}
		}
		expect(t, p, count >= 1 && count <= api.MaxCode, "as many instructions as these")
	}
	expect(t, api.Prog{Wide: temps(), Code: nil}, false, "no instructions")
	expect(t, api.Prog{}, false, "nothing at all")
	far := api.Prog{Wide: temps(), Code: make([]api.Ins, 1<<16)}
	for k := range far.Code {
		far.Code[k].Op = api.XHalt
	}
	expect(t, far, false, "far too many instructions")
}

func TestEachInstructionIsAsked(t *testing.T) {
	p := api.Prog{Wide: temps(), Code: make([]api.Ins, api.MaxCode)}
	for k := range p.Code {
		p.Code[k] = api.Ins{Op: api.XOut, A: n1}
	}
	expect(t, p, true, "all are good")
	for k := range p.Code {
		p.Code[k].A = w1
		expect(t, p, false, "one is not")
		p.Code[k].A = n1
	}
}

// TestAgainstTable tries every instruction of small fields, alone in its program and among others.
func TestAgainstTable(t *testing.T) {
	for op := -2; op <= 50; op++ {
		for dest := -1; dest <= 4; dest++ {
			for a := -1; a <= 4; a++ {
				for b := -1; b <= 4; b++ {
					for c := -1; c <= 3; c++ {
						for n := uint32(0); n <= 1; n++ {
							i := api.Ins{Op: op, Dest: dest, A: a, B: b, C: c, N: n}
							againstTable(t, with(i), i)
							againstTable(t, api.Prog{Wide: []bool{true, false, true}, Code: []api.Ins{i}}, i)
						}
					}
				}
			}
		}
	}
}

func againstTable(t *testing.T, p api.Prog, i api.Ins) {
	t.Helper()
	if got, want := May(p), byTable(p, i); got != want {
		t.Errorf("May(%v) = %v, want %v by the table", p, got, want)
	}
}

func TestNothingIsChanged(t *testing.T) {
	wrong := []api.Ins{{}, {Op: api.XWide + api.OpLess, Dest: w1, A: w1, B: w1}, {Op: api.XIn, Dest: -1}, {Op: api.XJump, C: 3}}
	for _, i := range append(good(), wrong...) {
		wide := append(temps(), true, false, true)
		code := append(with(i).Code, api.Ins{Op: -5, N: 9}, api.Ins{Op: api.XHalt})
		wasWide, wasCode := slices.Clone(wide), slices.Clone(code)
		p := api.Prog{Wide: wide[:4], Code: code[:3]}
		first := May(p)
		if !reflect.DeepEqual(wide, wasWide) || !reflect.DeepEqual(code, wasCode) {
			t.Errorf("May changed what was handed in, or what lies behind it: %v, %v", wide, code)
		}
		if May(p) != first || first != byTable(p, i) {
			t.Errorf("May(%v) = %v, and then otherwise, or otherwise than the table", p, first)
		}
	}
}

func TestNothingBehindListsIsRead(t *testing.T) {
	wide := []bool{false, true, false, true, false}
	code := []api.Ins{{Op: api.XIn, Dest: 4}, {Op: api.XHalt}}
	expect(t, api.Prog{Wide: wide[:4], Code: code}, false, "the temporary lies behind the list")
	expect(t, api.Prog{Wide: wide, Code: code}, true, "it lies in it")
	code[0] = api.Ins{Op: api.XMove, Dest: 3, A: 3}
	expect(t, api.Prog{Wide: wide[:3], Code: code}, false, "the wide temporary lies behind the list")
	expect(t, api.Prog{Wide: wide, Code: code}, true, "it lies in it")
	code = []api.Ins{{Op: api.XJump, C: 1}, {Op: api.XHalt}, {Op: -1}}
	expect(t, api.Prog{Wide: wide, Code: code[:1]}, false, "the instruction lies behind the list")
	expect(t, api.Prog{Wide: wide, Code: code[:2]}, true, "what is wrong lies behind the list")
	expect(t, api.Prog{Wide: wide[:0], Code: code[:2]}, false, "all temporaries lie behind the list")
	expect(t, api.Prog{Wide: wide, Code: code[:0]}, false, "all instructions lie behind the list")
}
