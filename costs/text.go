package costs

import (
	"iter"
	"strconv"
	"strings"

	"orpiment/api"
)

// The lines of a text are numbered from 0: the lines before firstCost have values of their own, each further one has the cost of an operation.
const (
	sectionLine = iota
	copyLine
	firstCost
	lineCount = firstCost + Ops
)

const maxDigits = 9

// Text returns the text of a table.
func Text(t Table) (string, api.Errno) {
	if e := Check(t); e != api.OK {
		return "", e
	}
	var b strings.Builder
	for line, value := range valuesOf(t) {
		b.WriteString(label(line))
		b.WriteByte(' ')
		b.WriteString(strconv.FormatInt(value, 10))
		b.WriteByte('\n')
	}
	return b.String(), api.OK
}

// Parse returns the table of a text.
func Parse(s string) (Table, api.Fault) {
	if len(s) > api.MaxText {
		return Table{}, api.Fault{At: 0, Code: api.ErrLimit}
	}
	var values [lineCount]int64
	read := 0
	for at, line := range lines(s) {
		if read == lineCount {
			return Table{}, api.Fault{At: at, Code: api.ErrSyntax}
		}
		value, ok := valueOf(line, label(read))
		if !ok {
			return Table{}, api.Fault{At: at, Code: api.ErrSyntax}
		}
		values[read] = value
		read++
	}
	if read < lineCount {
		return Table{}, api.Fault{At: len(s), Code: api.ErrSyntax}
	}
	t := tableOf(values)
	if e := Check(t); e != api.OK {
		return Table{}, api.Fault{At: 0, Code: e}
	}
	return t, api.Fault{}
}

// label returns the name with which a line begins.
func label(line int) string {
	switch line {
	case sectionLine:
		return "section"
	case copyLine:
		return "copy"
	}
	return Name(line - firstCost)
}

// valuesOf returns the values of a table in the order of the lines; tableOf undoes it.
func valuesOf(t Table) [lineCount]int64 {
	var values [lineCount]int64
	values[sectionLine] = t.Section
	values[copyLine] = t.Copy
	copy(values[firstCost:], t.Costs[:])
	return values
}

func tableOf(values [lineCount]int64) Table {
	t := Table{Section: values[sectionLine], Copy: values[copyLine]}
	copy(t.Costs[:], values[firstCost:])
	return t
}

// lines visits the lines of a string, each with its offset. A line keeps its line feed, so that a last line without one is told apart.
func lines(s string) iter.Seq2[int, string] {
	return func(yield func(int, string) bool) {
		for at := 0; at < len(s); {
			end := len(s)
			if feed := strings.IndexByte(s[at:], '\n'); feed >= 0 {
				end = at + feed + 1
			}
			if !yield(at, s[at:end]) {
				return
			}
			at = end
		}
	}
}

// valueOf returns the value of a line that consists of the name, one blank, a number and a line feed.
func valueOf(line, name string) (int64, bool) {
	rest, named := strings.CutPrefix(line, name+" ")
	digits, ended := strings.CutSuffix(rest, "\n")
	if !named || !ended {
		return 0, false
	}
	return decimal(digits)
}

// decimal returns the number of decimal digits without leading zeros, so that each number has only one text.
func decimal(digits string) (int64, bool) {
	if digits == "" || len(digits) > maxDigits || len(digits) > 1 && digits[0] == '0' {
		return 0, false
	}
	n := int64(0)
	for i := range len(digits) {
		digit := digits[i]
		if digit < '0' || digit > '9' {
			return 0, false
		}
		n = 10*n + int64(digit-'0')
	}
	return n, true
}
