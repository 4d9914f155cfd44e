package layout

import "loanbook/api"

// Has tells which of Dest, A and B an instruction has: what it gives, and what it takes.
func Has(op int) (dest, a, b bool) {
	held, _ := kindsOf(op)
	return isTemp(held[0]), isTemp(held[1]), isTemp(held[2])
}

func isTemp(k kind) bool { return k == narrow || k == wide || k == either }

// GoesOn tells with which instructions a program may go on behind that of a number: only such as are there, so that no caller has to ask for the end.
func GoesOn(p api.Prog, at int) []int {
	if !isIn(at, len(p.Code)) {
		return nil
	}
	var ways []int
	for _, to := range leads(p.Code[at], at) {
		if isIn(to, len(p.Code)) {
			ways = append(ways, to)
		}
	}
	return ways
}

func leads(i api.Ins, at int) []int {
	switch i.Op {
	case api.XJump:
		return []int{i.C}
	case api.XIf:
		return []int{at + 1, i.C}
	case api.XHalt:
		return nil
	}
	return []int{at + 1}
}
