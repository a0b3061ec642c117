package props

import (
	"fmt"
	"math/rand"
	"regexp"
	"strconv"
	"strings"
	"testing"

	"pumice/api"
)

// F14.3

func TestText(t *testing.T) {
	is(t, "Text", made(t, 1, 1).Text(), "1 1\n")
	is(t, "Text", made(t, 256, 1<<24).Text(), "256 16777216\n")
	is(t, "Text", shelf(t).b.Text(), `12 100
1 1 10 10
2 2 60 40 closed
3 2 60 39 closed
4 2 90 10
6 2 30 10 closed
7 2 70 70 closed
8 3 100 0 closed
9 2 21 0 closed
10 2 0 0 closed
`)
}

// TestTextOfAll: all blocks are taken, each is closed or not.
func TestTextOfAll(t *testing.T) {
	const size = 1 << 24
	b, want := made(t, api.MaxBlocks, size), "256 16777216\n"
	for leb := range api.MaxBlocks {
		use := 1 + leb%3
		for _, errno := range []api.Errno{b.Take(leb, use), b.Use(leb, size-leb), b.Kill(leb, leb)} {
			is(t, "errno", errno, api.OK)
		}
		want += fmt.Sprintf("%d %d %d %d", leb, use, size-leb, size-2*leb)
		if leb%2 == 1 {
			is(t, "Close", b.Close(leb), api.OK)
			want += " closed"
		}
		want += "\n"
	}
	is(t, "Text", b.Text(), want)
	is(t, "Text of Parse", parsed(t, want).Text(), want)
}

// TestParse: what is read goes on as the book itself does.
func TestParse(t *testing.T) {
	p := shelf(t)
	p.b = parsed(t, p.b.Text())
	p.m.held(t, "parsed", p.b)
	p.use(t, 4, 11, api.ENOSPC)
	p.use(t, 4, 10, api.OK)
	p.use(t, 3, 0, api.EBUSY)
	p.kill(t, 3, 40, api.ENOSPC)
	p.kill(t, 3, 39, api.OK)
	p.take(t, 11, 3, api.OK)
	p.take(t, 12, 3, api.EINVAL)
	p.take(t, 2, 3, api.EBUSY)
	p.release(t, 3, api.OK)
}

// TestParseRight: texts at the edges of what can be.
func TestParseRight(t *testing.T) {
	for _, text := range []string{
		"1 1\n",
		"256 16777216\n",
		"1 1\n0 1 0 0\n",
		"1 1\n0 3 1 0\n",
		"1 1\n0 3 1 1\n",
		"1 1\n0 2 0 0 closed\n",
		"2 5\n1 2 5 5\n",
		"3 100\n0 1 99 98 closed\n2 3 100 100\n",
		"256 16777216\n255 3 16777216 16777216 closed\n",
	} {
		b, errno := Parse(text)
		is(t, fmt.Sprintf("Parse(%q)", text), errno, api.OK)
		if b != nil {
			is(t, "Text", b.Text(), text)
		}
	}
}

func refused(t *testing.T, text string) {
	t.Helper()
	what := fmt.Sprintf("Parse(%q)", text)
	b, errno := Parse(text)
	is(t, what, errno, api.EINVAL)
	is(t, what+" is nil", b == nil, true)
}

// TestParseWrong: P1404: texts of no book.
func TestParseWrong(t *testing.T) {
	for _, text := range []string{
		"", "\n", " ", "\n\n", "4\n", "4", "4 \n", " 100\n", "a\n", "closed\n", "\x00", "\xff\n",
		"4 100", "4 100\n\n", "\n4 100\n", "4 100\r\n", "4 100\n\x00", "4 100 \n", " 4 100\n", "4  100\n", "4\t100\n", "4\n100\n",
		"4 100 0\n", "4 100 0 0\n", "4 100 closed\n", "4 closed 100\n", "closed 4 100\n",
		"04 100\n", "4 0100\n", "+4 100\n", "4 +100\n", "-4 100\n", "4 -100\n", "-0 100\n", "4 1e2\n", "0x4 100\n", "4 100.0\n", "4 1_00\n", "4 １\n",
		"0 100\n", "4 0\n", "257 100\n", "4 16777217\n", "256 16777217\n", "00 1\n",
		"99999999999999999999 100\n", "4 99999999999999999999\n", "9223372036854775808 100\n", "18446744073709551620 100\n", "4 18446744073709551716\n", "4294967300 100\n",
		"4 100\n4 100\n", "4 100\n1\n", "4 100\n1 2\n", "4 100\n1 2 60\n", "4 100\n1 2 60 40 0\n", "4 100\n1 2 60 40 0 closed\n",
		"1 2 60 40\n", "1 2 60 40\n4 100\n",
	} {
		refused(t, text)
	}
}

// TestParseWrongRow: a right first line, and then one that is not.
func TestParseWrongRow(t *testing.T) {
	is(t, "Text", parsed(t, "4 100\n1 2 60 40 closed\n").Text(), "4 100\n1 2 60 40 closed\n")
	for _, row := range []string{
		"1 2 60 40 closed", "1 2 60 40 closed\n\n", "\n1 2 60 40 closed\n", "1 2 60 40 closed \n", "1 2 60 40  closed\n", " 1 2 60 40 closed\n",
		"1  2 60 40 closed\n", "1 2  60 40 closed\n", "12 60 40 closed\n", "1 260 40 closed\n", "1 2 6040 closed\n", "1 2 60 40closed\n", "1 2 60 40 \n", "1 2 60 40\r\n",
		"1 2 60 40 Closed\n", "1 2 60 40 close\n", "1 2 60 40 closedd\n", "1 2 60 40 open\n", "1 2 60 40 clozed\n", "1 2 60 40 closed closed\n", "1 2 60 40 closed 0\n",
		"closed 1 2 60 40\n", "1 closed 2 60 40\n", "1 2 closed 60 40\n", "1 2 60 closed 40\n", "1 2 60 40\nclosed\n", "1 2 60 40 true\n",
		"01 2 60 40\n", "1 02 60 40\n", "1 2 060 40\n", "1 2 60 040\n", "1 2 00 00\n", "1 2 0 00\n", "00 2 0 0\n",
		"+1 2 60 40\n", "1 +2 60 40\n", "1 2 +60 40\n", "1 2 60 +40\n", "1 2 60 -0\n", "-0 2 60 40\n",
		"-1 2 60 40\n", "4 2 60 40\n", "256 2 60 40\n", "4294967297 2 60 40\n",
		"1 0 0 0\n", "1 0 60 40\n", "1 4 60 40\n", "1 -2 60 40\n", "1 0 0 0 closed\n",
		"1 2 101 40\n", "1 2 101 101\n", "1 2 60 61\n", "1 2 0 1\n", "1 2 -1 0\n", "1 2 -1 -1\n", "1 2 60 -1\n", "1 2 60 -9223372036854775808\n", "1 2 -9223372036854775808 0\n", "1 2 0 -9223372036854775808\n", "1 2 -9223372036854775808 -9223372036854775808\n",
		"1 2 9223372036854775807 40\n", "1 2 60 9223372036854775807\n", "1 2 9223372036854775807 9223372036854775807\n", "1 2 99999999999999999999 40\n", "1 2 60 99999999999999999999\n", "99999999999999999999 2 60 40\n", "1 99999999999999999999 60 40\n", "1 2 18446744073709551676 40\n",
		"1 2 60 4o\n", "a 2 60 40\n", "1 b 60 40\n", "1 2 c 40\n", "1 2 60 d\n", "1,2,60,40\n", "1 2 6e1 40\n", "1 2 0x3c 40\n", "1 2 6_0 40\n",
		"1 2 60 40\n1 2 60 40\n", "1 2 60 40\n1 3 10 10\n", "2 2 60 40\n1 2 60 40\n", "1 2 60 40\n3 1 0 0\n2 1 0 0\n", "1 2 60 40\n0 1 0 0\n",
		"1 2 60 40\n\n2 2 60 40\n", "1 2 60 40 2 2 60 40\n", "1 2 60 40\n4 100\n", "1 2 60 40\n2 2 60\n", "1 2 60 40\n2\n",
		strings.Repeat("0", 1000) + "1 2 60 40\n", "1 2 60 40" + strings.Repeat(" ", 1000) + "\n", "1 2 60 40\n" + strings.Repeat("\n", 1000), strings.Repeat("1 ", 1000) + "\n", strings.Repeat("1 2 60 40\n", 1000),
	} {
		refused(t, "4 100\n"+row)
	}
}

// shape: how the Text of a book looks, whatever its numbers are.
var shape = regexp.MustCompile(strings.ReplaceAll(`\AN N\n(N [123] N N( closed)?\n)*\z`, "N", "(0|[1-9][0-9]{0,8})"))

// aBook: is this the Text of a book, by the chapter's words?
func aBook(text string) bool {
	if !shape.MatchString(text) {
		return false
	}
	lines := strings.Split(strings.TrimSuffix(text, "\n"), "\n")
	head := numbersOf(lines[0])
	if head[0] < 1 || head[0] > 256 || head[1] < 1 || head[1] > 1<<24 {
		return false
	}
	before := -1
	for _, l := range lines[1:] {
		n := numbersOf(strings.TrimSuffix(l, " closed"))
		if n[0] <= before || n[0] >= head[0] || n[2] > head[1] || n[3] > n[2] {
			return false
		}
		before = n[0]
	}
	return true
}

func numbersOf(line string) []int {
	l := []int{}
	for _, word := range strings.Split(line, " ") {
		n, err := strconv.Atoi(word)
		if err != nil {
			panic(err)
		}
		l = append(l, n)
	}
	return l
}

// judged: a text reads just if it is a book's, and then as the book that has it. Was it one?
func judged(t *testing.T, text string) bool {
	t.Helper()
	want := aBook(text)
	b, errno := Parse(text)
	if (errno == api.OK) != want || (b != nil) != want {
		t.Fatalf("Parse(%q): %d, but that it is a book's is %t", text, errno, want)
	}
	if !want {
		is(t, fmt.Sprintf("Parse(%q)", text), errno, api.EINVAL)
		return false
	}
	is(t, "Text", b.Text(), text)
	return true
}

// TestEveryByte: each byte of a text turned into each other one, taken out, or with each other one ahead of it.
func TestEveryByte(t *testing.T) {
	right := 0
	for _, text := range []string{"4 100\n", "4 100\n1 2 60 40 closed\n", "12 7\n0 1 7 0\n1 3 5 5 closed\n11 2 0 0\n"} {
		if !judged(t, text) {
			t.Errorf("%q is a book's", text)
		}
		for i := range len(text) + 1 {
			for c := range 256 {
				if judged(t, text[:i]+string([]byte{byte(c)})+text[i:]) {
					right++
				}
				if i < len(text) && judged(t, text[:i]+string([]byte{byte(c)})+text[i+1:]) {
					right++
				}
			}
			judged(t, text[:i])
			judged(t, text[i:])
			judged(t, text[:i]+text[min(i+1, len(text)):])
		}
	}
	if right < 100 {
		t.Errorf("only %d texts were a book's", right)
	}
}

// TestPartsByChance: texts out of parts that a book's text has, or might have.
func TestPartsByChance(t *testing.T) {
	r, right := chance(3), 0
	words := []string{"0", "1", "2", "3", "4", "00", "01", "+1", "-1", "closed", "", "5", "a", "257"}
	for range 60000 {
		text := fmt.Sprintf("%d %d\n", 1+r.Intn(4), 1+r.Intn(4))
		for range r.Intn(4) {
			text += someRow(r, words)
		}
		if judged(t, text) {
			right++
		}
	}
	if right < 1000 {
		t.Errorf("only %d texts were a book's", right)
	}
}

// someRow: mostly four small numbers, now and then with something else among them.
func someRow(r *rand.Rand, words []string) string {
	row := []string{}
	for range 4 {
		row = append(row, words[r.Intn(4)])
	}
	if r.Intn(3) == 0 {
		row = append(row, "closed")
	}
	if r.Intn(6) == 0 {
		row[r.Intn(len(row))] = words[r.Intn(len(words))]
	}
	if r.Intn(12) == 0 {
		row = append(row, words[r.Intn(len(words))])
	}
	return strings.Join(row, " ") + "\n"
}

// TestLongTexts: they are read to their end, or not, but not for ever.
func TestLongTexts(t *testing.T) {
	const n = 1 << 20
	for _, text := range []string{
		strings.Repeat("9", n), strings.Repeat("0", n) + "4 100\n", strings.Repeat("\n", n), strings.Repeat(" ", n),
		"4 100\n" + strings.Repeat("closed ", n), "4 100\n" + strings.Repeat("1 2 60 40\n", n), "4 100\n" + strings.Repeat("1 ", n),
	} {
		b, errno := Parse(text)
		is(t, "Parse of a long text", errno, api.EINVAL)
		is(t, "it is nil", b == nil, true)
	}
}
