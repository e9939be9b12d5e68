package costs_test

import (
	"slices"
	"strconv"
	"strings"
	"testing"

	"orpiment/api"
	"orpiment/costs"
)

const defaultText = "section 4\ncopy 1\nsend 3\nreceive 3\nreply 3\nread 2\nwrite 2\npulse 2\nlock 2\nunlock 2\n" +
	"condwait 2\ncondsignal 2\nsemwait 2\nsempost 2\nbarrier 2\ntimer 2\nsleep 2\nchannel 2\n" +
	"interrupt 2\nunmask 2\nkill 2\npriority 2\nyield 2\nexit 2\nspawn 8\nnop 1\n"

// replaced returns the default text with one part replaced; the part has to be in it.
func replaced(t *testing.T, from, to string) string {
	t.Helper()
	if !strings.Contains(defaultText, from) {
		t.Fatalf("no %q in the default text", from)
	}
	return strings.Replace(defaultText, from, to, 1)
}

// expectFault checks that Parse returns a fault and no table.
func expectFault(t *testing.T, s string, want api.Fault) {
	t.Helper()
	if table, f := costs.Parse(s); f != want || table != (costs.Table{}) {
		t.Errorf("Parse(%.300q) = %v, %v; want no table, %v", s, table, f, want)
	}
}

// P1.5

func TestText(t *testing.T) {
	if got, e := costs.Text(costs.Default()); got != defaultText || e != api.OK {
		t.Errorf("Text = %q, %v", got, e)
	}
	numbered := costs.Table{Section: 1000, Copy: 0}
	want := "section 1000\ncopy 0\n"
	for op, x := range operationNames {
		numbered.Costs[op] = int64(977 + op)
		want += x.name + " " + strconv.Itoa(977+op) + "\n"
	}
	if got, e := costs.Text(numbered); got != want || e != api.OK {
		t.Errorf("Text = %q, %v", got, e)
	}
}

func TestTextErrors(t *testing.T) {
	for i, table := range invalidTables() {
		if got, e := costs.Text(table); got != "" || e != api.ErrRange {
			t.Errorf("invalid table %d: %q, %v", i, got, e)
		}
	}
}

func TestParse(t *testing.T) {
	if got, f := costs.Parse(defaultText); got != costs.Default() || f != (api.Fault{}) {
		t.Errorf("Parse = %v, %v", got, f)
	}
	want := costs.Default()
	want.Section, want.Copy, want.Costs[costs.Send], want.Costs[costs.Nop] = 1000, 0, 999, 100
	s := strings.NewReplacer("section 4", "section 1000", "copy 1", "copy 0", "send 3", "send 999", "nop 1", "nop 100").Replace(defaultText)
	if got, f := costs.Parse(s); got != want || f != (api.Fault{}) {
		t.Errorf("Parse = %v, %v", got, f)
	}
}

func TestParseTooLong(t *testing.T) {
	expectFault(t, strings.Repeat("x", api.MaxText+1), api.Fault{At: 0, Code: api.ErrLimit})
	expectFault(t, defaultText+strings.Repeat("\n", api.MaxText+1-len(defaultText)), api.Fault{At: 0, Code: api.ErrLimit})
	expectFault(t, defaultText+strings.Repeat("\n", api.MaxText-len(defaultText)), api.Fault{At: len(defaultText), Code: api.ErrSyntax})
	expectFault(t, strings.Repeat("x", api.MaxText), api.Fault{At: 0, Code: api.ErrSyntax})
}

// A line that deviates in any way is the fault, at the offset where it begins.
func TestParseWrongLines(t *testing.T) {
	at := strings.Index(defaultText, "lock 2\n")
	for _, line := range []string{
		"", "lock", "lock ", "lock 2 ", "lock 2\r", " lock 2", "lock  2", "lock\t2", "lock2", "Lock 2", "unlock 2", "loc 2", "locks 2", " 2",
		"lock 02", "lock 00", "lock 000000000", "lock +2", "lock -2", "lock -", "lock 2.0", "lock 0x2", "lock 1_0", "lock a", "lock 2a",
		"lock /", "lock :", "lock 1234567890", "lock 0000000002", "lock 99999999999999999999999", "lock 2 2", "lock \xff", "lock \u0662",
	} {
		expectFault(t, replaced(t, "\nlock 2\n", "\n"+line+"\n"), api.Fault{At: at, Code: api.ErrSyntax})
	}
	expectFault(t, replaced(t, "section 4", "section 04"), api.Fault{At: 0, Code: api.ErrSyntax})
	expectFault(t, replaced(t, "copy 1", "copy 00"), api.Fault{At: len("section 4\n"), Code: api.ErrSyntax})
	expectFault(t, "\n"+defaultText, api.Fault{At: 0, Code: api.ErrSyntax})
	expectFault(t, "\n", api.Fault{At: 0, Code: api.ErrSyntax})
}

func TestParseFirstWrongLineDecides(t *testing.T) {
	s := strings.NewReplacer("section 4", "section 0", "send 3", "send x", "reply 3", "reply y").Replace(defaultText)
	expectFault(t, s, api.Fault{At: strings.Index(s, "send"), Code: api.ErrSyntax})
	expectFault(t, replaced(t, "send 3\nreceive 3\n", "receive 3\nsend 3\n"), api.Fault{At: strings.Index(defaultText, "send"), Code: api.ErrSyntax})
	expectFault(t, replaced(t, "yield 2\n", ""), api.Fault{At: strings.Index(defaultText, "yield"), Code: api.ErrSyntax})
	expectFault(t, replaced(t, "yield 2\n", "yield 2\nyield 2\n"), api.Fault{At: strings.Index(defaultText, "exit"), Code: api.ErrSyntax})
}

// Each text that is cut has a fault: at its end if a line is missing, otherwise where the line that lacks its line feed begins.
func TestParseCutText(t *testing.T) {
	for n := range len(defaultText) {
		cut := defaultText[:n]
		expectFault(t, cut, api.Fault{At: strings.LastIndexByte(cut, '\n') + 1, Code: api.ErrSyntax})
	}
}

func TestParseBehindTheLastLine(t *testing.T) {
	for _, rest := range []string{"\n", " ", "x", "\x00", "nop 1\n", "section 4\n", "a\nb\n", defaultText} {
		expectFault(t, defaultText+rest, api.Fault{At: len(defaultText), Code: api.ErrSyntax})
	}
}

func TestParseInvalidTable(t *testing.T) {
	for _, x := range [][2]string{
		{"section 4", "section 0"}, {"section 4", "section 1001"}, {"copy 1", "copy 101"}, {"send 3", "send 0"},
		{"nop 1", "nop 0"}, {"nop 1", "nop 1001"}, {"spawn 8", "spawn 999999999"}, {"barrier 2", "barrier 100000000"},
	} {
		expectFault(t, replaced(t, x[0], x[1]), api.Fault{At: 0, Code: api.ErrRange})
	}
	broken := replaced(t, "section 4", "section 0") + "\n"
	expectFault(t, broken, api.Fault{At: len(broken) - 1, Code: api.ErrSyntax})
}

// P1.6

func TestTextAndParseUndoEachOther(t *testing.T) {
	for i, table := range validTables() {
		s, e := costs.Text(table)
		if e != api.OK {
			t.Fatalf("table %d: %v", i, e)
		}
		back, f := costs.Parse(s)
		if f != (api.Fault{}) || back != table {
			t.Errorf("table %d: Parse of Text: %v, %v", i, back, f)
		}
		if again, _ := costs.Text(back); again != s {
			t.Errorf("table %d: Text of Parse: %q; want %q", i, again, s)
		}
	}
}

// Whatever byte of a text is replaced, Parse either has a fault or returns a table with exactly this text.
func TestParseAcceptsTextsOnly(t *testing.T) {
	for at := range len(defaultText) {
		for _, b := range []byte("0139 \n\r+-x/:\x00\xff") {
			s := defaultText[:at] + string([]byte{b}) + defaultText[at+1:]
			table, f := costs.Parse(s)
			if f != (api.Fault{}) {
				continue
			}
			if back, e := costs.Text(table); back != s || e != api.OK {
				t.Fatalf("Parse accepts %q, whose table has the text %q", s, back)
			}
		}
	}
}

func TestSectionsFitPreemptible(t *testing.T) {
	for i, table := range validTables() {
		for _, n := range []int64{1, 2, 3, 4, 7, 8, 100, 999, 1000, 1001, 2000, 2100} {
			sections, e := costs.Sections(table, n)
			if e != api.OK {
				t.Fatalf("table %d: Sections(%d): %v", i, n, e)
			}
			sum, borders := int64(0), []int64{0}
			for _, section := range sections {
				sum += section
				borders = append(borders, sum)
			}
			if sum != n {
				t.Errorf("table %d: the sections of %d add up to %d", i, n, sum)
			}
			for done := range n + 1 {
				want := done < n && slices.Contains(borders, done)
				if got := costs.Preemptible(table, n, done); got != want {
					t.Fatalf("table %d: Preemptible(%d, %d) = %v", i, n, done, got)
				}
			}
		}
	}
}

func TestLongestIsTheLongestSection(t *testing.T) {
	for i, table := range validTables() {
		longest, want := costs.Longest(table), int64(0)
		for op := range costs.Ops {
			for bytes := 0; bytes <= api.MaxMessage; bytes += 256 {
				n, _ := costs.Cost(table, op, bytes)
				sections, _ := costs.Sections(table, n)
				want = max(want, slices.Max(sections))
			}
		}
		if longest != want || longest > table.Section {
			t.Errorf("table %d: Longest = %d; want %d", i, longest, want)
		}
	}
}

func TestCostNeverDecreases(t *testing.T) {
	for i, table := range validTables() {
		for op := range costs.Ops {
			last := int64(0)
			for bytes := range api.MaxMessage + 1 {
				n, e := costs.Cost(table, op, bytes)
				if e != api.OK || n < last {
					t.Fatalf("table %d: Cost(%d, %d) = %d, %v behind %d", i, op, bytes, n, e, last)
				}
				last = n
			}
		}
	}
}
