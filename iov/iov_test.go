package iov_test

import (
	"bytes"
	"math"
	"slices"
	"testing"

	"orpiment/api"
	"orpiment/iov"
)

type part = api.Part

// at returns a part.
func at(address, length int64) part { return part{Address: address, Length: length} }

// invalid is a list that is not valid, with its error, and the place of the error in the order of the errors.
type invalid struct {
	parts []part
	want  api.Errno
	place int
}

var invalids = []invalid{
	{make([]part, api.MaxParts+1), api.ErrLimit, 1},
	{append(make([]part, api.MaxParts), at(-1, -1)), api.ErrLimit, 1},
	{slices.Repeat([]part{at(0, api.MaxMessage)}, 100), api.ErrLimit, 1},
	{[]part{at(-1, 0)}, api.ErrRange, 2},
	{[]part{at(math.MinInt64, 1)}, api.ErrRange, 2},
	{[]part{at(iov.MaxAddress+1, 0)}, api.ErrRange, 2},
	{[]part{at(math.MaxInt64, 1)}, api.ErrRange, 2},
	{[]part{at(0, -1)}, api.ErrRange, 2},
	{[]part{at(0, math.MinInt64)}, api.ErrRange, 2},
	{[]part{at(0, api.MaxMessage+1)}, api.ErrRange, 2},
	{[]part{at(0, math.MaxInt64), at(0, math.MaxInt64), at(0, 2)}, api.ErrRange, 2},
	{[]part{at(0, 5), at(0, -5)}, api.ErrRange, 2},
	{[]part{at(0, api.MaxMessage), at(0, 1), at(-1, 1)}, api.ErrRange, 2},
	{append(make([]part, api.MaxParts-1), at(0, -1)), api.ErrRange, 2},
	{[]part{at(0, api.MaxMessage), at(0, 1)}, api.ErrMessageSize, 3},
	{[]part{at(0, 1), at(9, 0), at(0, api.MaxMessage)}, api.ErrMessageSize, 3},
	{slices.Repeat([]part{at(0, api.MaxMessage)}, api.MaxParts), api.ErrMessageSize, 3},
	{slices.Repeat([]part{at(0, api.MaxMessage/api.MaxParts+1)}, api.MaxParts), api.ErrMessageSize, 3},
}

// wrongCuts are offsets and numbers of bytes that do not fit into a list of 5 bytes.
var wrongCuts = [][2]int64{
	{-1, 0}, {-1, 1}, {-1, 6}, {0, -1}, {5, -1}, {-1, -1}, {0, 6}, {1, 5}, {5, 1}, {6, 0}, {6, -1}, {7, -2},
	{math.MinInt64, 0}, {0, math.MinInt64}, {math.MinInt64, math.MinInt64}, {math.MinInt64, math.MaxInt64},
	{0, math.MaxInt64}, {1, math.MaxInt64}, {math.MaxInt64, 0}, {math.MaxInt64, 1}, {math.MaxInt64, math.MaxInt64},
}

// example is the list of the first example, of 5 bytes.
func example() []part { return []part{at(4, 2), at(0, 0), at(1, 3)} }

func expectLength(t *testing.T, parts []part, want int64, wantError api.Errno) {
	t.Helper()
	if got, e := iov.Length(parts); got != want || e != wantError {
		t.Errorf("Length(%v) = %d, %v; want %d, %v", parts, got, e, want, wantError)
	}
}

func expectSlice(t *testing.T, parts []part, offset, n int64, want []part, wantError api.Errno) {
	t.Helper()
	if got, e := iov.Slice(parts, offset, n); !slices.Equal(got, want) || e != wantError {
		t.Errorf("Slice(%v, %d, %d) = %v, %v; want %v, %v", parts, offset, n, got, e, want, wantError)
	}
}

func expectJoin(t *testing.T, parts, want []part, wantError api.Errno) {
	t.Helper()
	if got, e := iov.Join(parts); !slices.Equal(got, want) || e != wantError {
		t.Errorf("Join(%v) = %v, %v; want %v, %v", parts, got, e, want, wantError)
	}
}

// expectGather also checks that the memory is not changed.
func expectGather(t *testing.T, mem string, parts []part, offset, n int64, want string, wantError api.Errno) {
	t.Helper()
	m := []byte(mem)
	if got, e := iov.Gather(m, parts, offset, n); string(got) != want || e != wantError {
		t.Errorf("Gather(%q, %v, %d, %d) = %q, %v; want %q, %v", mem, parts, offset, n, got, e, want, wantError)
	}
	if string(m) != mem {
		t.Errorf("Gather(%q, %v, %d, %d) changed the memory to %q", mem, parts, offset, n, m)
	}
}

// expectScatter also checks the memory behind the call.
func expectScatter(t *testing.T, mem string, parts []part, offset int64, data string, want int64, wantMem string) {
	t.Helper()
	m, d := []byte(mem), []byte(data)
	if got, e := iov.Scatter(m, parts, offset, d); got != want || e != api.OK {
		t.Errorf("Scatter(%q, %v, %d, %q) = %d, %v; want %d", mem, parts, offset, data, got, e, want)
	}
	if string(m) != wantMem || string(d) != data {
		t.Errorf("Scatter(%q, %v, %d, %q): the memory is %q, the data %q; want %q", mem, parts, offset, data, m, d, wantMem)
	}
}

func expectScatterError(t *testing.T, mem string, parts []part, offset int64, data string, want api.Errno) {
	t.Helper()
	m := []byte(mem)
	if got, e := iov.Scatter(m, parts, offset, []byte(data)); got != 0 || e != want || string(m) != mem {
		t.Errorf("Scatter(%q, %v, %d, %q) = %d, %v, the memory is %q; want 0, %v", mem, parts, offset, data, got, e, m, want)
	}
}

// expectCopy also checks both memories behind the call.
func expectCopy(t *testing.T, dst string, to []part, src string, from []part, want int64, wantDst string) {
	t.Helper()
	d, s := []byte(dst), []byte(src)
	if got, e := iov.Copy(d, to, s, from); got != want || e != api.OK {
		t.Errorf("Copy(%q, %v, %q, %v) = %d, %v; want %d", dst, to, src, from, got, e, want)
	}
	if string(d) != wantDst || string(s) != src {
		t.Errorf("Copy(%q, %v, %q, %v): the memories are %q, %q; want %q, %q", dst, to, src, from, d, s, wantDst, src)
	}
}

func expectCopyError(t *testing.T, dst string, to []part, src string, from []part, want api.Errno) {
	t.Helper()
	d, s := []byte(dst), []byte(src)
	if got, e := iov.Copy(d, to, s, from); got != 0 || e != want || string(d) != dst || string(s) != src {
		t.Errorf("Copy(%q, %v, %q, %v) = %d, %v, the memories are %q, %q; want 0, %v", dst, to, src, from, got, e, d, s, want)
	}
}

func TestExamples(t *testing.T) {
	expectLength(t, example(), 5, api.OK)
	expectSlice(t, example(), 1, 3, []part{at(5, 1), at(1, 2)}, api.OK)
	expectGather(t, "abcdefgh", example(), 0, 5, "efbcd", api.OK)
	expectJoin(t, []part{at(0, 2), at(2, 3), at(9, 0), at(5, 1)}, []part{at(0, 6)}, api.OK)
	expectScatterError(t, "12345678", []part{at(6, 4)}, 0, "xyz", api.ErrFault)
	if got := iov.Units(17); got != 2 {
		t.Errorf("Units(17) = %d; want 2", got)
	}
}

// TestInvalidLists: every function finds the first error of a list, before the errors of its other arguments.
func TestInvalidLists(t *testing.T) {
	for _, l := range invalids {
		expectLength(t, l.parts, 0, l.want)
		expectJoin(t, l.parts, nil, l.want)
		for _, offset := range []int64{0, 1, -1, api.MaxMessage + 1} {
			expectSlice(t, l.parts, offset, 1, nil, l.want)
			expectSlice(t, l.parts, 0, offset, nil, l.want)
			for _, mem := range []string{"", "abcdefgh"} {
				expectGather(t, mem, l.parts, offset, 1, "", l.want)
				expectGather(t, mem, l.parts, 0, offset, "", l.want)
				expectScatterError(t, mem, l.parts, offset, "xyz", l.want)
				expectScatterError(t, mem, l.parts, offset, "", l.want)
				for _, valid := range [][]part{nil, {at(0, 1)}, {at(9, 9)}} {
					expectCopyError(t, mem, l.parts, mem, valid, l.want)
					expectCopyError(t, mem, valid, mem, l.parts, l.want)
				}
			}
		}
	}
}

// TestInvalidPairs: Copy looks for each error in both lists before it looks for the next one.
func TestInvalidPairs(t *testing.T) {
	for _, to := range invalids {
		for _, from := range invalids {
			want := to.want
			if from.place < to.place {
				want = from.want
			}
			expectCopyError(t, "abc", to.parts, "xyz", from.parts, want)
		}
	}
}

// TestLength: P9.1, the sum of the lengths, up to the greatest lists that are valid.
func TestLength(t *testing.T) {
	expectLength(t, nil, 0, api.OK)
	expectLength(t, []part{}, 0, api.OK)
	expectLength(t, []part{at(7, 0)}, 0, api.OK)
	expectLength(t, []part{at(7, 3), at(7, 3), at(8, 1)}, 7, api.OK)
	expectLength(t, make([]part, api.MaxParts), 0, api.OK)
	expectLength(t, []part{at(0, api.MaxMessage)}, api.MaxMessage, api.OK)
	expectLength(t, []part{at(iov.MaxAddress, 1), at(0, api.MaxMessage-1), at(iov.MaxAddress, 0)}, api.MaxMessage, api.OK)
	expectLength(t, slices.Repeat([]part{at(5, api.MaxMessage/api.MaxParts)}, api.MaxParts), api.MaxMessage, api.OK)
}

// TestSlice: P9.1, the parts of the bytes, in order, without empty parts and not joined.
func TestSlice(t *testing.T) {
	l := []part{at(0, 0), at(2, 2), at(4, 1), at(3, 0), at(4, 3), at(0, 0)}
	expectSlice(t, l, 0, 6, []part{at(2, 2), at(4, 1), at(4, 3)}, api.OK)
	expectSlice(t, l, 0, 3, []part{at(2, 2), at(4, 1)}, api.OK)
	expectSlice(t, l, 0, 2, []part{at(2, 2)}, api.OK)
	expectSlice(t, l, 1, 1, []part{at(3, 1)}, api.OK)
	expectSlice(t, l, 2, 1, []part{at(4, 1)}, api.OK)
	expectSlice(t, l, 1, 4, []part{at(3, 1), at(4, 1), at(4, 2)}, api.OK)
	expectSlice(t, l, 3, 3, []part{at(4, 3)}, api.OK)
	expectSlice(t, l, 4, 1, []part{at(5, 1)}, api.OK)
	expectSlice(t, l, 5, 1, []part{at(6, 1)}, api.OK)
	for offset := range int64(7) {
		expectSlice(t, l, offset, 0, nil, api.OK)
	}
	for _, empty := range [][]part{nil, {}, {at(3, 0), at(4, 0)}} {
		expectSlice(t, empty, 0, 0, nil, api.OK)
		expectSlice(t, empty, 0, 1, nil, api.ErrRange)
		expectSlice(t, empty, 1, 0, nil, api.ErrRange)
	}
}

// TestSliceFar: a part of a part may begin behind the greatest address.
func TestSliceFar(t *testing.T) {
	expectSlice(t, []part{at(iov.MaxAddress, 4)}, 1, 2, []part{at(iov.MaxAddress+1, 2)}, api.OK)
	expectSlice(t, []part{at(iov.MaxAddress, api.MaxMessage)}, api.MaxMessage-1, 1, []part{at(iov.MaxAddress+api.MaxMessage-1, 1)}, api.OK)
}

// TestWrongCuts: P9.1 and P9.2, also where the sum of offset and n exceeds the greatest number.
func TestWrongCuts(t *testing.T) {
	for _, c := range wrongCuts {
		for _, mem := range []string{"", "abcdefgh"} {
			expectSlice(t, example(), c[0], c[1], nil, api.ErrRange)
			expectGather(t, mem, example(), c[0], c[1], "", api.ErrRange)
		}
	}
}

// TestJoin: P9.1, parts are joined only if the later one begins where the one before it ends.
func TestJoin(t *testing.T) {
	for _, c := range []struct{ parts, want []part }{
		{nil, nil},
		{[]part{}, nil},
		{[]part{at(3, 0)}, nil},
		{[]part{at(3, 0), at(3, 0)}, nil},
		{[]part{at(3, 2)}, []part{at(3, 2)}},
		{[]part{at(3, 2), at(5, 1)}, []part{at(3, 3)}},
		{[]part{at(3, 2), at(6, 1)}, []part{at(3, 2), at(6, 1)}},
		{[]part{at(3, 2), at(4, 1)}, []part{at(3, 2), at(4, 1)}},
		{[]part{at(3, 2), at(3, 2)}, []part{at(3, 2), at(3, 2)}},
		{[]part{at(5, 1), at(3, 2)}, []part{at(5, 1), at(3, 2)}},
		{[]part{at(0, 0), at(0, 2), at(2, 0), at(2, 1), at(3, 0)}, []part{at(0, 3)}},
		{[]part{at(0, 2), at(5, 0), at(5, 1)}, []part{at(0, 2), at(5, 1)}},
		{[]part{at(0, 2), at(7, 0), at(2, 1)}, []part{at(0, 3)}},
		{[]part{at(0, 1), at(1, 1), at(3, 1), at(4, 1), at(2, 1), at(3, 1)}, []part{at(0, 2), at(3, 2), at(2, 2)}},
		{[]part{at(iov.MaxAddress-1, 1), at(iov.MaxAddress, 4)}, []part{at(iov.MaxAddress-1, 5)}},
		{[]part{at(0, 2000), at(2000, 2096)}, []part{at(0, api.MaxMessage)}},
	} {
		expectJoin(t, c.parts, c.want, api.OK)
	}
	var steps []part
	for n := range int64(api.MaxParts) {
		steps = append(steps, at(10+3*n, 3))
	}
	expectJoin(t, steps, []part{at(10, 3*api.MaxParts)}, api.OK)
}

// TestGather: P9.2, the bytes of a list; only those that are read must be inside of the memory.
func TestGather(t *testing.T) {
	const mem = "abcdefgh"
	l := []part{at(6, 2), at(0, 0), at(7, 1), at(0, 3), at(6, 2)}
	expectGather(t, mem, l, 0, 8, "ghhabcgh", api.OK)
	expectGather(t, mem, l, 1, 4, "hhab", api.OK)
	expectGather(t, mem, l, 2, 1, "h", api.OK)
	expectGather(t, mem, l, 8, 0, "", api.OK)
	expectGather(t, mem, nil, 0, 0, "", api.OK)
	expectGather(t, "", nil, 0, 0, "", api.OK)
	expectGather(t, "", l, 3, 0, "", api.OK)

	expectGather(t, mem, []part{at(0, 8)}, 0, 8, mem, api.OK)
	expectGather(t, mem, []part{at(0, 9)}, 0, 9, "", api.ErrFault)
	expectGather(t, mem, []part{at(0, 9)}, 0, 8, mem, api.OK)
	expectGather(t, mem, []part{at(0, 9)}, 8, 1, "", api.ErrFault)
	expectGather(t, mem, []part{at(0, 9)}, 8, 0, "", api.OK)
	far := []part{at(8, 1), at(0, 2), at(iov.MaxAddress, 1), at(iov.MaxAddress, 0)}
	expectGather(t, mem, far, 1, 2, "ab", api.OK)
	expectGather(t, mem, far, 0, 2, "", api.ErrFault)
	expectGather(t, mem, far, 1, 3, "", api.ErrFault)
	expectGather(t, "", []part{at(0, 1)}, 0, 1, "", api.ErrFault)
	expectGather(t, mem, []part{at(9, 0), at(1, 1)}, 0, 1, "b", api.OK)
}

// TestScatter: P9.2, data is written as far as both it and the list reach.
func TestScatter(t *testing.T) {
	const mem = "12345678"
	expectScatter(t, mem, example(), 0, "abcde", 5, "1cdeab78")
	expectScatter(t, mem, example(), 0, "abc", 3, "1c34ab78")
	expectScatter(t, mem, example(), 1, "abc", 3, "1bc45a78")
	expectScatter(t, mem, example(), 3, "abcde", 2, "12ab5678")
	expectScatter(t, mem, example(), 0, "abcdefgh", 5, "1cdeab78")
	expectScatter(t, mem, example(), 5, "abc", 0, mem)
	expectScatter(t, mem, example(), 2, "", 0, mem)
	expectScatter(t, mem, nil, 0, "abc", 0, mem)
	expectScatter(t, "", nil, 0, "abc", 0, "")
	expectScatter(t, mem, []part{at(0, 8)}, 0, "abcdefgh", 8, "abcdefgh")

	expectScatter(t, mem, []part{at(0, 3), at(1, 3)}, 0, "abcdef", 6, "adef5678")
	expectScatter(t, mem, []part{at(1, 3), at(0, 3)}, 0, "abcdef", 6, "defc5678")
	expectScatter(t, mem, []part{at(2, 1), at(2, 1), at(2, 1)}, 0, "ab", 2, "12b45678")
}

func TestScatterErrors(t *testing.T) {
	const mem = "12345678"
	for _, offset := range []int64{-1, 6, 7, api.MaxMessage, math.MaxInt64, math.MinInt64} {
		expectScatterError(t, mem, example(), offset, "abc", api.ErrRange)
		expectScatterError(t, mem, example(), offset, "", api.ErrRange)
		expectScatterError(t, "", example(), offset, "abc", api.ErrRange)
	}
	expectScatterError(t, mem, nil, 1, "", api.ErrRange)

	// Nothing is written before the byte that is not inside, either.
	l := []part{at(0, 2), at(7, 2), at(4, 1)}
	expectScatterError(t, mem, l, 0, "abcd", api.ErrFault)
	expectScatterError(t, mem, l, 3, "ab", api.ErrFault)
	expectScatterError(t, mem, []part{at(0, 1), at(iov.MaxAddress, 1)}, 0, "ab", api.ErrFault)
	expectScatterError(t, "", []part{at(0, 1)}, 0, "a", api.ErrFault)
	expectScatter(t, mem, l, 0, "abc", 3, "ab34567c")
	expectScatter(t, mem, l, 4, "abc", 1, "1234a678")
	expectScatter(t, mem, []part{at(9, 9)}, 0, "", 0, mem)
	expectScatter(t, mem, []part{at(9, 9)}, 9, "abc", 0, mem)
	expectScatter(t, mem, []part{at(9, 0), at(1, 1)}, 0, "a", 1, "1a345678")
}

// TestScatterOfMemory: the data may lie in the memory that is written.
func TestScatterOfMemory(t *testing.T) {
	mem := []byte("abcdefgh")
	n, e := iov.Scatter(mem, []part{at(1, 2), at(3, 3)}, 0, mem[:5])
	if n != 5 || e != api.OK || string(mem) != "aabcdegh" {
		t.Errorf("Scatter = %d, %v, the memory is %q; want 5, the memory %q", n, e, mem, "aabcdegh")
	}
}

// TestCopy: P9.2, as many bytes as both lists have.
func TestCopy(t *testing.T) {
	const dst, src = "12345678", "abcdefgh"
	expectCopy(t, dst, example(), src, []part{at(7, 1), at(0, 4)}, 5, "1bcdha78")
	expectCopy(t, dst, example(), src, []part{at(7, 1), at(0, 0), at(0, 2)}, 3, "1b34ha78")
	expectCopy(t, dst, []part{at(7, 1), at(0, 2)}, src, example(), 3, "fb34567e")
	expectCopy(t, dst, nil, src, example(), 0, dst)
	expectCopy(t, dst, example(), src, nil, 0, dst)
	expectCopy(t, "", nil, "", nil, 0, "")
	expectCopy(t, "", []part{at(3, 0)}, "", example(), 0, "")
	expectCopy(t, dst, []part{at(0, 3), at(1, 3)}, src, []part{at(0, 8)}, 6, "adef5678")
	expectCopy(t, dst, []part{at(0, 8)}, src, []part{at(0, 3), at(1, 3)}, 6, "abcbcd78")
}

// TestCopyErrors: only the bytes that are copied must be inside, of both memories.
func TestCopyErrors(t *testing.T) {
	const dst, src = "12345678", "abcd"
	expectCopyError(t, dst, []part{at(0, 2), at(7, 2)}, src, []part{at(0, 4)}, api.ErrFault)
	expectCopyError(t, dst, []part{at(0, 4)}, src, []part{at(0, 2), at(3, 2)}, api.ErrFault)
	expectCopyError(t, dst, []part{at(8, 1)}, src, []part{at(4, 1)}, api.ErrFault)
	expectCopyError(t, "", []part{at(0, 1)}, src, []part{at(0, 1)}, api.ErrFault)
	expectCopyError(t, dst, []part{at(0, 1)}, "", []part{at(0, 1)}, api.ErrFault)
	expectCopyError(t, dst, []part{at(iov.MaxAddress, 1)}, src, []part{at(0, 1)}, api.ErrFault)
	expectCopyError(t, dst, []part{at(0, 1)}, src, []part{at(iov.MaxAddress, 1)}, api.ErrFault)
	expectCopy(t, dst, []part{at(0, 2), at(7, 2)}, src, []part{at(0, 3)}, 3, "ab34567c")
	expectCopy(t, dst, []part{at(0, 3)}, src, []part{at(0, 2), at(3, 2)}, 3, "abd45678")
	expectCopy(t, dst, []part{at(9, 9)}, src, nil, 0, dst)
	expectCopy(t, dst, []part{at(9, 0), at(0, 1)}, src, []part{at(9, 0), at(1, 9)}, 1, "b2345678")
}

// TestCopyWithin: all bytes are read before any is written, if both memories are the same one.
func TestCopyWithin(t *testing.T) {
	for _, c := range []struct {
		to, from []part
		want     string
	}{
		{[]part{at(1, 5)}, []part{at(0, 5)}, "aabcdegh"},
		{[]part{at(0, 5)}, []part{at(1, 5)}, "bcdeffgh"},
		{[]part{at(0, 4), at(4, 4)}, []part{at(4, 4), at(0, 4)}, "efghabcd"},
		{[]part{at(0, 1), at(1, 1), at(2, 1)}, []part{at(2, 1), at(0, 1), at(1, 1)}, "cabdefgh"},
		{[]part{at(0, 8)}, []part{at(0, 8)}, "abcdefgh"},
	} {
		mem := []byte("abcdefgh")
		n, e := iov.Copy(mem, c.to, mem, c.from)
		wantN, _ := iov.Length(c.to)
		if n != wantN || e != api.OK || string(mem) != c.want {
			t.Errorf("Copy from %v to %v = %d, %v, the memory is %q; want %d, the memory %q", c.from, c.to, n, e, mem, wantN, c.want)
		}
	}
}

// TestUnits: P9.3, without an overflow either.
func TestUnits(t *testing.T) {
	for _, c := range [][2]int64{
		{math.MinInt64, 0}, {-17, 0}, {-1, 0}, {0, 0}, {1, 1}, {15, 1}, {16, 1}, {17, 2}, {32, 2}, {33, 3},
		{api.MaxMessage, 256}, {math.MaxInt64 - 15, 1<<59 - 1}, {math.MaxInt64 - 14, 1 << 59}, {math.MaxInt64, 1 << 59},
	} {
		if got := iov.Units(c[0]); got != c[1] {
			t.Errorf("Units(%d) = %d; want %d", c[0], got, c[1])
		}
	}
}

// TestHeader: P9.3, zero values if there are fewer than 16 bytes.
func TestHeader(t *testing.T) {
	const text = "0123456789abcdefXYZ"
	for n := range len(text) + 1 {
		var want [16]byte
		wantRest, wantOk := "", n >= 16
		if wantOk {
			copy(want[:], text)
			wantRest = text[16:n]
		}
		data := []byte(text)[:n]
		h, rest, ok := iov.Header(data)
		if h != want || string(rest) != wantRest || ok != wantOk || string(data) != text[:n] {
			t.Errorf("Header(%q) = %q, %q, %v; want %q, %q, %v", text[:n], h, rest, ok, want, wantRest, wantOk)
		}
	}
	if h, rest, ok := iov.Header(nil); h != [16]byte{} || len(rest) > 0 || ok {
		t.Errorf("Header(nil) = %q, %q, %v", h, rest, ok)
	}
}

// TestPartsKept: R4, the lists are not changed, neither is what lies behind their ends, and a result shares no memory with them.
func TestPartsKept(t *testing.T) {
	all := []part{at(9, 0), at(0, 2), at(2, 1), at(3, 1), at(7, 7), at(7, 7)}
	parts := slices.Clone(all)
	l, mem := parts[:4], []byte("abcdefgh")
	join, _ := iov.Join(l)
	whole, _ := iov.Slice(l, 0, 4)
	iov.Length(l)
	iov.Gather(mem, l, 0, 4)
	iov.Scatter(mem, l, 0, mem)
	iov.Copy(mem, l, mem, l[:3])
	for _, out := range [][]part{join, whole, append(join, at(5, 5)), append(whole, at(5, 5))} {
		for i := range out {
			out[i] = at(6, 6)
		}
	}
	if !slices.Equal(parts, all) {
		t.Errorf("the parts are %v; want %v", parts, all)
	}
}

// TestBytesKept: R4, memory behind the end of a memory is neither inside nor changed, and a result shares no memory with an argument.
func TestBytesKept(t *testing.T) {
	const text = "0123456789abcdefXYZ!?"
	all := []byte(text)
	mem := all[:19]
	_, rest, _ := iov.Header(mem)
	out, _ := iov.Gather(mem, []part{at(0, 19)}, 0, 19)
	for _, b := range [][]byte{rest, out, append(rest, '-'), append(out, '-')} {
		copy(b, bytes.Repeat([]byte{'-'}, len(b)))
	}
	l := []part{at(18, 2)}
	if _, e := iov.Gather(mem, l, 0, 2); e != api.ErrFault {
		t.Errorf("Gather: %v; want %v", e, api.ErrFault)
	}
	if _, e := iov.Scatter(mem, l, 0, []byte("--")); e != api.ErrFault {
		t.Errorf("Scatter: %v; want %v", e, api.ErrFault)
	}
	if _, e := iov.Copy(mem, l, []byte("--"), []part{at(0, 2)}); e != api.ErrFault {
		t.Errorf("Copy: %v; want %v", e, api.ErrFault)
	}
	if _, e := iov.Copy([]byte("--"), []part{at(0, 2)}, mem, l); e != api.ErrFault {
		t.Errorf("Copy: %v; want %v", e, api.ErrFault)
	}
	iov.Scatter(mem, []part{at(17, 2)}, 0, []byte("YZ--"))
	if string(all) != text {
		t.Errorf("the bytes are %q; want %q", all, text)
	}
}
