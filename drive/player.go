package drive

import (
	"loanbook/api"
	"loanbook/build"
	"loanbook/code"
	"loanbook/done"
	"loanbook/near"
	"loanbook/run"
)

// player has the program and the ins that the lines so far have made.
type player struct {
	api.Prog
	ins []uint32
}

// answer tells the words of the answer to a line.
func (p *player) answer(line string) []string {
	word, numbers, known := parse(line)
	if !known {
		return refusal()
	}
	switch word {
	case "narrow", "wide":
		return p.addTemp(word == "wide")
	case "code":
		return p.addCode(numbers)
	case "ins":
		p.ins = numbers
		return ok(len(p.ins))
	case "run":
		return shown(run.Run(p.Prog, p.ins, int(numbers[0])))
	case "on":
		return p.on(target(numbers[0]), int(numbers[1]))
	case "near":
		return p.near()
	case "bytes":
		return p.bytes(target(numbers[0]))
	}
	return refusal()
}

func refusal() []string { return []string{"?"} }

func ok(count int) []string { return tell([]string{"ok"}, count) }

func bad(e api.Errno) []string { return tell([]string{"bad"}, e) }

func target(singles uint32) api.Target { return api.Target{Singles: int(singles)} }

// shown tells what either way of running answers.
func shown(s api.Shown, e api.Errno) []string {
	if e != api.OK {
		return bad(e)
	}
	return tell(tell(nil, s.State, s.Steps), s.Out...)
}

func (p *player) addTemp(wide bool) []string {
	if len(p.Wide) == api.MaxTemps {
		return refusal()
	}
	p.Wide = append(p.Wide, wide)
	return ok(len(p.Wide))
}

// addCode takes an instruction as it is: whether it may be hangs on lines that are still to come, too.
func (p *player) addCode(n []uint32) []string {
	if len(p.Code) == api.MaxCode {
		return refusal()
	}
	p.Code = append(p.Code, api.Ins{Op: int(n[0]), Dest: int(n[1]), A: int(n[2]), B: int(n[3]), C: int(n[4]), N: n[5]})
	return ok(len(p.Code))
}

func (p *player) on(t api.Target, steps int) []string {
	l, e := build.Build(p.Prog, t)
	if e != api.OK {
		return bad(e)
	}
	return shown(done.Run(p.Prog, t, l, p.ins, steps))
}

func (p *player) near() []string {
	rows, e := near.Of(p.Prog)
	if e != api.OK {
		return bad(e)
	}
	pairs := 0
	for one, row := range rows {
		// Only those below it, so that no pair is counted from either side.
		for _, is := range row[:one] {
			if is {
				pairs++
			}
		}
	}
	return tell(nil, pairs)
}

func (p *player) bytes(t api.Target) []string {
	l, e := build.Build(p.Prog, t)
	if e != api.OK {
		return bad(e)
	}
	b, e := code.Put(l)
	if e != api.OK {
		return bad(e)
	}
	return tell(nil, len(b))
}
