package tests

import (
	"fmt"
	"regexp"
	"slices"
	"strconv"
	"strings"
	"testing"

	"loop.example/sumsthatadd/impl"
)

// deskLines are lines of a desk with their answers.
var deskLines = []struct{ line, want string }{
	{"rest 10 1,1,1", "4,3,3"},
	{"rest 0 1", "0"},
	{"rest 7 0,5", "0,7"},
	{"rest 100000 50", "100000"},
	{"rest 100000 50,0,0,0,0,0,0,50", "50000,0,0,0,0,0,0,50000"},
	{"sums 10 1,1,1", "3,4,3"},
	{"sums 0 1", "0"},
	{"sums 100000 50,0,0,0,0,0,0,50", "50000,0,0,0,0,0,0,50000"},
	{"ways 6 1,3,4", "4"},
	{"ways 0 1", "1"},
	{"ways 3 2", "0"},
	{"ways 120 1,2,3,4,5", "91606"},
	{"ways 120 30", "1"},
	{"coins 6 1,3,4", "0,2,0"},
	{"coins 0 1,3,4", "0,0,0"},
	{"coins 3 2", "none"},
	{"coins 119 30", "none"},
	{"coins 120 30", "4"},
	{"coins 120 26,27,28,29,30", "0,0,0,0,4"},
	{"bill 10,0,0", "6,-3,-3"},
	{"bill 0", "0"},
	{"bill 50", "0"},
	{"bill 0,50", "-25,25"},
	{"bill 50,0,0,0,0,0", "41,-9,-8,-8,-8,-8"},
}

// wrongLines are lines with a word of a desk and as many texts as are behind it.
var wrongLines = []string{
	// Texts that are no numbers.
	"rest  ", "sums  ", "ways  ", "coins  ", "bill ",
	"rest  1", "sums 10 ", "ways  1", "coins 6 ", "ways x 1", "rest 10 x", "bill x",
	"rest 10 1,,1", "rest 10 1,", "rest 10 ,1", "rest 10 ,", "rest 10 1;1", "rest 10,1 1", "bill 1,", "bill ,1", "bill ,",
	"rest 10 1.0", "rest 1e1 1", "rest 0x1 1", "rest 1_0 1", "ways 6 1,three", "coins six 1,3,4", "bill 10,0,zero",
	"rest 10\t 1", "rest 10 1\t", "rest 10 1\n", "bill 1\n", "bill \n", "rest 10\n 1", "ways 6 1,3,4\x00", "rest 10 \xff", "rest ١ 1", "coins 6 1,３",
	// Numbers that are not written so.
	"rest 010 1,1,1", "rest 00 1", "rest +10 1", "rest -0 1", "rest 10 01", "rest 10 1,+1", "rest 10 1,-0", "sums 10 00,1",
	"ways 06 1,3,4", "ways 6 1,03,4", "coins +6 1", "coins 6 1,3,04", "bill 010", "bill +1", "bill -0", "bill 1,00",
	// Numbers that are too great for an int, or come round to those that are valid.
	"rest 99999999999999999999 1", "rest 18446744073709551626 1", "rest 10 18446744073709551617", "ways 4294967302 1,3,4",
	"coins 6 18446744073709551617", "bill 18446744073709551617", "bill -18446744073709551606", "rest 9223372036854775807 1", "bill -9223372036854775808",
	// Numbers that are not those of the functions.
	"rest -1 1", "rest 100001 1", "rest 5 0", "rest 5 0,0,0", "rest 5 51", "rest 5 1,-1", "rest 5 1,1,1,1,1,1,1,1,1",
	"sums -1 1", "sums 100001 1", "sums 5 0", "sums 5 1,51", "sums 5 -1,2", "sums 5 1,1,1,1,1,1,1,1,1",
	"ways -1 1", "ways 121 1", "ways 5 0", "ways 5 31", "ways 5 1,1", "ways 5 2,1", "ways 5 1,2,3,4,5,6",
	"coins -1 1", "coins 121 1", "coins 121 2", "coins 5 0", "coins 5 31", "coins 5 1,1", "coins 5 2,1", "coins 5 1,2,3,4,5,6",
	"bill 51", "bill -1", "bill 0,51", "bill 10,-1", "bill 0,0,0,0,0,0,0",
}

// otherLines are lines that have no word of a desk, or not as many texts as are behind it.
var otherLines = []string{
	"", " ", "  ", "\n", "\t", "help", "walk 1 2", "walk 1", "walk", "0", "10 1,1,1",
	"rest", "sums", "ways", "coins", "bill", "rest ", "sums ", "ways ", "coins ", "rest 10", "ways 6", "coins 1,3,4", "sums x",
	"rest 10 1 1", "rest 10 1 ", "rest  10 1", "rest 10  1", "sums 10 1, 1", "ways 6 1 3 4", "coins 6 1,3,4 ", "rest    ",
	"bill 1, 2", "bill  ", "bill  1", "bill 1 ", "bill 10 1,1,1", "bill x y",
	" rest 10 1", " bill 1", "Rest 10 1", "REST 10 1", "Bill 1", "rests 10 1", "res 10 1", "sum 10 1", "way 6 1", "coin 6 1", "bills 1", "xrest 10 1",
	"rest\t10 1", "rest\n10 1", "rest,10 1", "bill\t1", "bill,1", "bill\n1", "\nbill 1", "rest10 1", " 10 1", "wrong", "what", "none",
}

// written returns numbers with commas.
func written(list []int) string {
	return strings.Trim(strings.ReplaceAll(fmt.Sprint(list), " ", ","), "[]")
}

// The forms of lines that are answered, be it by wrong, and of numbers that may be valid.
var (
	longForm   = regexp.MustCompile(`^(rest|sums|ways|coins) ([^ ]*) ([^ ]*)$`)
	shortForm  = regexp.MustCompile(`^(bill)() ([^ ]*)$`)
	numberForm = regexp.MustCompile(`^(0|[1-9][0-9]{0,8})$`)
)

// numbersByHand returns the numbers of texts, none if one of them is no number, or a number that is valid nowhere.
func numbersByHand(texts ...string) []int {
	var list []int
	for _, text := range texts {
		if !numberForm.MatchString(text) {
			return nil
		}
		n, _ := strconv.Atoi(text)
		list = append(list, n)
	}
	return list
}

// answerByHand returns the answer of a desk to a line.
func answerByHand(line string) string {
	match := longForm.FindStringSubmatch(line)
	if match == nil {
		match = shortForm.FindStringSubmatch(line)
	}
	if match == nil {
		return "what"
	}
	amounts, list := numbersByHand(match[2]), numbersByHand(strings.Split(match[3], ",")...)
	if list == nil || amounts == nil && match[1] != "bill" {
		return "wrong"
	}
	answer := ""
	switch match[1] {
	case "rest":
		answer = written(impl.ShareByRest(amounts[0], list))
	case "sums":
		answer = written(impl.ShareBySums(amounts[0], list))
	case "bill":
		answer = written(impl.BillShares(list))
	default:
		ways := impl.WaysOf(list, amounts[0])
		_, counts, ok := impl.FewestCoins(list, amounts[0])
		switch {
		case ways < 0:
		case match[1] == "ways":
			answer = fmt.Sprint(ways)
		case ok:
			answer = written(counts)
		default:
			answer = "none"
		}
	}
	if answer == "" {
		return "wrong"
	}
	return answer
}

// mixedLine returns a line that is put together of words and texts, most often in a form that is known.
func mixedLine(next func(below int) int) string {
	pick := func(texts ...string) string { return texts[next(len(texts))] }
	numbers := func(most int) string {
		var list []int
		for range 1 + next(9) {
			list = append(list, next(most))
		}
		if next(2) == 0 {
			slices.Sort(list)
			list = slices.Compact(list)
		}
		return written(list)
	}
	texts := []string{pick("rest", "sums", "ways", "coins", "bill", "walk", "")}
	if texts[0] != "bill" || next(9) == 0 {
		texts = append(texts, pick(fmt.Sprint(next(130)), fmt.Sprint(next(130)), fmt.Sprint(next(110000)), "", "x", "-1", "007", "1,2"))
	}
	texts = append(texts, pick(numbers(10), numbers(33), numbers(33), numbers(55), "", "x", "1,,2", "-3,4", "1,02"))
	if next(12) == 0 {
		texts = append(texts, pick("", "1"))
	}
	return strings.Join(texts, " ")
}

// eachDesk calls f with many lists of lines: each of the lines above, and mixed ones, of all numbers of lines there may be.
func eachDesk(f func(lines []string)) {
	all := slices.Concat(wrongLines, otherLines)
	for _, l := range deskLines {
		all = append(all, l.line)
	}
	for lines := range slices.Chunk(all, 20) {
		f(slices.Clone(lines))
	}
	f(nil)
	for seed := range 1000 {
		next := mixed(seed)
		lines := make([]string, seed%21)
		for i := range lines {
			lines[i] = mixedLine(next)
			if next(4) == 0 {
				lines[i] = all[next(len(all))]
			}
		}
		f(lines)
	}
}

func TestP48RunDesk(t *testing.T) {
	look := func(line string, want string) {
		if got := impl.RunDesk([]string{line}); got != want+"\n" {
			t.Errorf("RunDesk of %q = %q, not %q", line, got, want)
		}
		if by := answerByHand(line); by != want {
			t.Errorf("by hand the answer to %q is %q, not %q", line, by, want)
		}
	}
	for _, l := range deskLines {
		look(l.line, l.want)
	}
	for _, line := range wrongLines {
		look(line, "wrong")
	}
	for _, line := range otherLines {
		look(line, "what")
	}
}

func TestP48RunDeskOfNoAndOfManyLines(t *testing.T) {
	for n := range 25 {
		lines, want := make([]string, n), ""
		for i := range lines {
			lines[i] = fmt.Sprintf("rest %d 1", i)
			if n <= 20 {
				want += fmt.Sprintf("%d\n", i)
			}
		}
		if got := impl.RunDesk(lines); got != want {
			t.Errorf("RunDesk of %d lines = %q", n, got)
		}
	}
	for _, line := range []string{"", "bill 1", "bill x"} {
		if got := impl.RunDesk(slices.Repeat([]string{line}, 21)); got != "" {
			t.Errorf("RunDesk of 21 times %q = %q", line, got)
		}
	}
}

func TestP48EachLineHasAnAnswer(t *testing.T) {
	counts := map[string]int{}
	eachDesk(func(lines []string) {
		var want strings.Builder
		for _, line := range lines {
			answer := answerByHand(line)
			word, _, _ := strings.Cut(line, " ")
			if answer == "wrong" || answer == "what" || answer == "none" {
				word = answer
			}
			counts[word]++
			want.WriteString(answer + "\n")
		}
		got := impl.RunDesk(lines)
		if got != want.String() {
			t.Fatalf("RunDesk(%q) = %q, not %q", lines, got, want.String())
		}
		if strings.Count(got, "\n") != len(lines) {
			t.Fatalf("RunDesk(%q) = %q", lines, got)
		}
		for n := range lines {
			if first := impl.RunDesk(lines[:n]); !strings.HasPrefix(got, first) || strings.Count(first, "\n") != n {
				t.Fatalf("RunDesk(%q) = %q, and of the first %d lines %q", lines, got, n, first)
			}
		}
	})
	for _, kind := range []string{"rest", "sums", "ways", "coins", "bill", "none", "wrong", "what"} {
		if counts[kind] < 20 {
			t.Errorf("only %d lines are answered as %s is", counts[kind], kind)
		}
	}
}

func TestC6DeskArgumentsAndResults(t *testing.T) {
	lines := []string{"rest 10 1,1,1", "bill 10,0,0", "bill x", "walk", "sums 10 1,1,1"}[:4]
	for range 2 {
		if got := impl.RunDesk(lines); got != "4,3,3\n6,-3,-3\nwrong\nwhat\n" {
			t.Errorf("called again: %q", got)
		}
	}
	if !slices.Equal(lines[:5], []string{"rest 10 1,1,1", "bill 10,0,0", "bill x", "walk", "sums 10 1,1,1"}) {
		t.Errorf("the lines are %q", lines[:5])
	}
}
