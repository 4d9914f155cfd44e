package drive

import (
	"fmt"
	"strings"
	"testing"
)

// numbersOf tells how many numbers follow each word; of `ins` -1, as it may be any number.
func numbersOf() map[string]int {
	return map[string]int{"narrow": 0, "wide": 0, "code": 6, "ins": -1, "run": 1, "on": 2, "near": 0, "bytes": 1}
}

// before is a program, with ins, that shows whatever becomes of its temporaries, its code and its ins.
func before() []string {
	return []string{"narrow", "wide", "narrow", in(0), in(2), three(5, 1, 0, 2), out(0), high(0, 1), out(0), "ins 3 4"}
}

// behind asks for all that there is to ask, and then adds to it.
func behind() []string {
	return []string{"run 100", "on 4 100", "on 6 3", "near", "bytes 4", "wide", "narrow", in(3), "run 100", "ins", halt(), "run 100"}
}

// expectRefused asks that the line is answered with `?`, and changes nothing.
func expectRefused(t *testing.T, line string) {
	t.Helper()
	head := len(Play(script(before()...)))
	without := Play(script(joined(before(), behind())...))
	expectAnswers(t, joined(before(), []string{line}, behind()), []string{without[:head] + "?\n" + strings.TrimSuffix(without[head:], "\n")})
	expect(t, script(line), "?\n")
}

// TestBefore: the lines by which expectRefused tells a change are known, and tell it.
func TestBefore(t *testing.T) {
	expectAnswers(t, joined(before(), behind()), []string{
		"ok 1", "ok 2", "ok 3", "ok 1", "ok 2", "ok 3", "ok 4", "ok 5", "ok 6", "ok 2",
		"2 6 3 4", "2 6 3 4", "0 3", "2", bytesOf(t, 4, before()...), "ok 4", "ok 5", "ok 7", "bad 2", "ok 0", "ok 8", "bad 2",
	})
}

func isKnown(line string) bool { return Play(line) != "?\n" }

func TestHowManyNumbers(t *testing.T) {
	for word, wanted := range numbersOf() {
		for count := range 100 {
			line := word + strings.Repeat(" 1", count)
			if wanted == -1 || count == wanted {
				if !isKnown(line) {
					t.Errorf("%q is not known", line)
				}
				continue
			}
			expectRefused(t, line)
		}
	}
}

// known is each line of a few that are, at the edges of what numbers follow.
func known() []string {
	return []string{
		"narrow", "wide", "code 10 0 0 0 0 0", "code 1 0 0 0 0 4294967295", "code 0 4294967295 1 9 10 0", "ins", "ins 0", "ins 1 2 3", "run 0", "run 100", "on 4 100", "on 8 0", "near", "bytes 4", "bytes 16",
	}
}

func TestKnown(t *testing.T) {
	for _, line := range known() {
		if !isKnown(line) {
			t.Errorf("%q is not known", line)
		}
	}
}

// whites are signs that are taken for blanks elsewhere, and bytes that are no text.
func whites() []string {
	return []string{" ", "\t", "\r", "\v", "\f", "\x00", "\x80", "\xff", "\u00a0", "\u2003", "\u3000", "\ufeff", "\u0085", ",", "_", "+", "-", ".", "x", "N", "\""}
}

// TestOtherSigns puts each sign, once and twice, at each place of a known line.
func TestOtherSigns(t *testing.T) {
	for _, line := range known() {
		for _, sign := range whites() {
			for at := range len(line) + 1 {
				expectRefused(t, line[:at]+sign+line[at:])
				expectRefused(t, line[:at]+sign+sign+line[at:])
			}
		}
	}
}

// TestOtherBlanks puts each sign, once and twice, and nothing, in the place of each blank of a known line, and of all.
func TestOtherBlanks(t *testing.T) {
	for _, line := range known() {
		for _, sign := range append(whites(), "") {
			for _, other := range []string{sign, sign + sign, " " + sign} {
				for at := range len(line) {
					if line[at] == ' ' && !isStillKnown(line, at, other) {
						expectRefused(t, line[:at]+other+line[at+1:])
					}
				}
				if all := strings.ReplaceAll(line, " ", other); all != line {
					expectRefused(t, all)
				}
			}
		}
	}
}

// isStillKnown tells whether the line is known with the other signs in the place of one blank, too: they are that blank, or nothing, and two numbers of `ins` become one.
func isStillKnown(line string, at int, other string) bool {
	return other == " " || other == "" && strings.HasPrefix(line, "ins ") && at > len("ins")
}

// TestEachByte puts each byte but 10 in the place of a word's, ahead of it and behind it.
func TestEachByte(t *testing.T) {
	words := numbersOf()
	for word, count := range words {
		numbers := strings.Repeat(" 1", max(count, 0))
		for sign := range 256 {
			other := string([]byte{byte(sign)})
			if other == "\n" {
				continue
			}
			for at := range len(word) {
				if changed := word[:at] + other + word[at+1:]; changed != word {
					expectRefused(t, changed+numbers)
				}
			}
			expectRefused(t, other+word+numbers)
			expectRefused(t, word+other+numbers)
		}
	}
}

func TestOtherWords(t *testing.T) {
	words := numbersOf()
	for word, count := range words {
		numbers := strings.Repeat(" 1", max(count, 0))
		others := []string{strings.ToUpper(word), strings.ToUpper(word[:1]) + word[1:], word + word, "x" + word, word + "s", "1 " + word, word + "1", "'" + word + "'", "/" + word}
		for at := range len(word) {
			others = append(others, word[:at], word[at+1:])
		}
		for _, other := range others {
			if _, is := words[other]; !is {
				expectRefused(t, other+numbers)
				expectRefused(t, other)
			}
		}
	}
	for _, line := range []string{"", " ", "?", "ok", "ok 1", "bad 2", "0", "1 2 3", "help", "halt", "put 4", "narrow wide", "run run", "ins ins", "near near", "code", "\x00", "\x80", "\xff", "ins \xff", "run \x80", "on 4\x00 1", "é", "日本"} {
		expectRefused(t, line)
	}
}

// taken and refused are texts that are a NUMBER, and that are none.
func taken() []string {
	return []string{"0", "1", "9", "10", "11", "99", "100", "255", "256", "1000000000", "2147483647", "2147483648", "3999999999", "4294967289", "4294967290", "4294967294", "4294967295"}
}

func refused() []string {
	return []string{
		"", "00", "01", "007", "010", "+1", "-1", "+0", "-0", "--1", "1a", "a1", "a", "0x1", "0x", "0b1", "0o7", "1_0", "1e1", "1.0", "1.", ".1", "1,0", "1\t", "\t1", "1\r", "\r1", "1\x00", "\x001", "\x80", "\xff", "1\xff", "٣", "３", "²", "1'", "#", "?",
		"4294967296", "4294967297", "4294967300", "4294967305", "4294967395", "5294967295", "9999999999", "10000000000", "42949672950", "04294967295", "8589934592", "18446744073709551615", "18446744073709551616", "18446744073709551617", "36893488147419103232",
		"340282366920938463463374607431768211456", "115792089237316195423570985008687907853269984665640564039457584007913129639936", strings.Repeat("9", 1000), strings.Repeat("0", 1000), strings.Repeat("0", 20) + "1", "1" + strings.Repeat("0", 64),
	}
}

// lineOf has the text at one place, and 4 at all others.
func lineOf(word string, count, at int, text string) string {
	line := word
	for k := range count {
		if k == at {
			line += " " + text
		} else {
			line += " 4"
		}
	}
	return line
}

func TestNumbers(t *testing.T) {
	for word, count := range numbersOf() {
		if count == -1 {
			count = 5
		}
		for at := range count {
			for _, text := range taken() {
				if line := lineOf(word, count, at, text); !isKnown(line) {
					t.Errorf("%q is not known", line)
				}
			}
			for _, text := range refused() {
				expectRefused(t, lineOf(word, count, at, text))
			}
		}
	}
}

// TestNumbersAreRead: each one comes out as it came in, by either way.
func TestNumbersAreRead(t *testing.T) {
	for _, text := range taken() {
		expectLast(t, "2 2 "+text, "narrow", in(0), out(0), "ins "+text, "run 10")
		expectLast(t, "2 2 "+text, "narrow", "code 1 0 0 0 0 "+text, out(0), "run 10")
	}
	for n := range 1100 {
		expectLast(t, fmt.Sprint("2 2 ", n), "narrow", in(0), out(0), fmt.Sprint("ins ", n), "run 10")
	}
}
