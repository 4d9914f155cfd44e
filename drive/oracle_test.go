package drive

import (
	"fmt"
	"math/big"
	"regexp"
	"strings"

	"loanbook/api"
	"loanbook/build"
	"loanbook/done"
	"loanbook/near"
	"loanbook/run"
)

// oracle answers lines another way than Play does: it holds each line against patterns, and its numbers are of any size.
type oracle struct {
	prog api.Prog
	ins  []uint32
}

var (
	noNumber  = regexp.MustCompile(`\A(narrow|wide|near)\z`)
	oneNumber = regexp.MustCompile(`\A(run|bytes) (0|[1-9][0-9]*)\z`)
	twoOfOn   = regexp.MustCompile(`\Aon (0|[1-9][0-9]*) (0|[1-9][0-9]*)\z`)
	sixOfCode = regexp.MustCompile(`\Acode( (0|[1-9][0-9]*)){6}\z`)
	anyOfIns  = regexp.MustCompile(`\Ains( (0|[1-9][0-9]*))*\z`)
	digits    = regexp.MustCompile(`[0-9]+`)
)

func isLine(line string) bool {
	for _, pattern := range []*regexp.Regexp{noNumber, oneNumber, twoOfOn, sixOfCode, anyOfIns} {
		if pattern.MatchString(line) {
			return true
		}
	}
	return false
}

func (o *oracle) answer(line string) string {
	if !isLine(line) {
		return "?"
	}
	n := []uint32{}
	for _, text := range digits.FindAllString(line, -1) {
		v, _ := new(big.Int).SetString(text, 10)
		if v.Cmp(big.NewInt(max32)) > 0 {
			return "?"
		}
		n = append(n, uint32(v.Uint64()))
	}
	return o.do(strings.Fields(line)[0], n)
}

func (o *oracle) do(word string, n []uint32) string {
	switch word {
	case "narrow", "wide":
		if len(o.prog.Wide) >= 12 {
			return "?"
		}
		o.prog.Wide = append(o.prog.Wide, word == "wide")
		return fmt.Sprintf("ok %d", len(o.prog.Wide))
	case "code":
		if len(o.prog.Code) >= 40 {
			return "?"
		}
		o.prog.Code = append(o.prog.Code, api.Ins{Op: int(n[0]), Dest: int(n[1]), A: int(n[2]), B: int(n[3]), C: int(n[4]), N: n[5]})
		return fmt.Sprintf("ok %d", len(o.prog.Code))
	case "ins":
		o.ins = n
		return fmt.Sprintf("ok %d", len(n))
	case "run":
		return o.shows(run.Run(o.prog, o.ins, int(n[0])))
	case "near":
		return o.near()
	}
	t := api.Target{Singles: int(n[0])}
	l, e := build.Build(o.prog, t)
	switch {
	case e != api.OK:
		return fmt.Sprintf("bad %d", e)
	case word == "bytes":
		return fmt.Sprint(sizeOf(l))
	}
	return o.shows(done.Run(o.prog, t, l, o.ins, int(n[1])))
}

func (o *oracle) shows(s api.Shown, e api.Errno) string {
	if e != api.OK {
		return fmt.Sprintf("bad %d", e)
	}
	return strings.TrimSuffix(fmt.Sprintf("%d %d %s", s.State, s.Steps, strings.Trim(fmt.Sprint(s.Out), "[]")), " ")
}

// near counts both ways round.
func (o *oracle) near() string {
	rows, e := near.Of(o.prog)
	if e != api.OK {
		return fmt.Sprintf("bad %d", e)
	}
	marks := 0
	for _, row := range rows {
		for _, is := range row {
			if is {
				marks++
			}
		}
	}
	return fmt.Sprint(marks / 2)
}

// played is what Play must answer.
func played(asked string) string {
	var o oracle
	answers := ""
	lines := strings.Split(asked, "\n")
	for k, line := range lines {
		if k == 60 || k == len(lines)-1 && line == "" {
			break
		}
		answers += o.answer(line) + "\n"
	}
	return answers
}
