package iov_test

import (
	"bytes"
	"slices"
	"testing"

	"orpiment/api"
	"orpiment/iov"
)

// numbers is a sequence of numbers that look random, but are the same in each run.
type numbers uint32

func (n *numbers) below(end int) int {
	*n = *n*1664525 + 1013904223
	return int(*n>>8) % end
}

// list returns a list of up to 6 parts that end at most at an address.
func (n *numbers) list(end int) []part {
	var out []part
	for range n.below(7) {
		address := n.below(end + 1)
		if len(out) > 0 && n.below(3) == 0 {
			last := out[len(out)-1]
			address = int(last.Address + last.Length)
		}
		length := n.below(min(5, end-address+1))
		out = append(out, at(int64(address), int64(length)))
	}
	return out
}

// bytes returns different bytes in each call.
func (n *numbers) bytes(length int) []byte {
	out := make([]byte, length)
	for i := range out {
		out[i] = byte(n.below(256))
	}
	return out
}

// apart returns the parts of a list that overlap none before them.
func apart(parts []part) []part {
	seen := map[int64]bool{}
	var out []part
	for _, p := range parts {
		l := addresses([]part{p})
		if slices.ContainsFunc(l, func(a int64) bool { return seen[a] }) {
			continue
		}
		for _, a := range l {
			seen[a] = true
		}
		out = append(out, p)
	}
	return out
}

// addresses returns the addresses of the bytes of a list: the definition.
func addresses(parts []part) []int64 {
	var out []int64
	for _, p := range parts {
		for k := range p.Length {
			out = append(out, p.Address+k)
		}
	}
	return out
}

// runs returns the longest parts of addresses that follow each other.
func runs(l []int64) []part {
	var out []part
	for i, a := range l {
		if i > 0 && l[i-1]+1 == a {
			out[len(out)-1].Length++
		} else {
			out = append(out, at(a, 1))
		}
	}
	return out
}

// modelSlice goes through the bytes one by one.
func modelSlice(parts []part, offset, n int64) []part {
	var out []part
	i := int64(0)
	for _, p := range parts {
		begun := false
		for k := range p.Length {
			switch {
			case i < offset || i >= offset+n:
			case begun:
				out[len(out)-1].Length++
			default:
				out, begun = append(out, at(p.Address+k, 1)), true
			}
			i++
		}
	}
	return out
}

// modelRead returns the bytes at addresses.
func modelRead(mem []byte, l []int64) ([]byte, api.Errno) {
	var out []byte
	for _, a := range l {
		if a >= int64(len(mem)) {
			return nil, api.ErrFault
		}
		out = append(out, mem[a])
	}
	return out, api.OK
}

// modelWrite returns a memory in which data is written to addresses.
func modelWrite(mem []byte, l []int64, data []byte) ([]byte, api.Errno) {
	out := bytes.Clone(mem)
	for i, a := range l {
		if a >= int64(len(out)) {
			return mem, api.ErrFault
		}
		out[a] = data[i]
	}
	return out, api.OK
}

// cutOf returns an offset and a number of bytes that may exceed a length by a little.
func (n *numbers) cutOf(length int64) (int64, int64) {
	offset := int64(n.below(int(length)+3)) - 1
	return offset, int64(n.below(int(max(length-offset, 0))+3)) - 1
}

// checkRead compares what does not write.
func checkRead(t *testing.T, n *numbers) {
	l, mem := n.list(30), n.bytes(20+n.below(20))
	all := addresses(l)
	length := int64(len(all))
	expectLength(t, l, length, api.OK)
	expectJoin(t, l, runs(all), api.OK)
	offset, count := n.cutOf(length)
	if offset < 0 || count < 0 || offset+count > length {
		expectSlice(t, l, offset, count, nil, api.ErrRange)
		expectGather(t, string(mem), l, offset, count, "", api.ErrRange)
		return
	}
	expectSlice(t, l, offset, count, modelSlice(l, offset, count), api.OK)
	want, wantError := modelRead(mem, all[offset:offset+count])
	expectGather(t, string(mem), l, offset, count, string(want), wantError)
}

// checkWrite compares what writes.
func checkWrite(t *testing.T, n *numbers) {
	l, mem, data := n.list(30), n.bytes(20+n.below(20)), n.bytes(n.below(20))
	all := addresses(l)
	if offset, _ := n.cutOf(int64(len(all))); offset < 0 || offset > int64(len(all)) {
		expectScatterError(t, string(mem), l, offset, string(data), api.ErrRange)
	} else {
		count := min(len(data), len(all)-int(offset))
		want, wantError := modelWrite(mem, all[offset:int(offset)+count], data)
		if wantError == api.OK {
			expectScatter(t, string(mem), l, offset, string(data), int64(count), string(want))
		} else {
			expectScatterError(t, string(mem), l, offset, string(data), wantError)
		}
	}

	from, src := n.list(30), n.bytes(20+n.below(20))
	source := addresses(from)
	count := min(len(all), len(source))
	read, readError := modelRead(src, source[:count])
	if readError != api.OK {
		expectCopyError(t, string(mem), l, string(src), from, readError)
		return
	}
	want, wantError := modelWrite(mem, all[:count], read)
	if wantError != api.OK {
		expectCopyError(t, string(mem), l, string(src), from, wantError)
		return
	}
	expectCopy(t, string(mem), l, string(src), from, int64(count), string(want))
}

func TestModel(t *testing.T) {
	n := numbers(1)
	for step := range 20000 {
		checkRead(t, &n)
		checkWrite(t, &n)
		if t.Failed() {
			t.Fatalf("step %d", step)
		}
	}
}

// TestSliceOfSlice: P9.4, slices of slices are slices.
func TestSliceOfSlice(t *testing.T) {
	n := numbers(2)
	for range 5000 {
		l := n.list(30)
		for i := range l {
			l[i].Address += iov.MaxAddress - 30
		}
		length, _ := iov.Length(l)
		a := int64(n.below(int(length) + 1))
		m := int64(n.below(int(length-a) + 1))
		b := int64(n.below(int(m) + 1))
		count := int64(n.below(int(m-b) + 1))
		outer, e := iov.Slice(l, a, m)
		if e != api.OK {
			t.Fatalf("Slice(%v, %d, %d): %v", l, a, m, e)
		}
		want, _ := iov.Slice(l, a+b, count)
		expectSlice(t, outer, b, count, want, api.OK)
		if !slices.Equal(addresses(want), addresses(l)[a+b:a+b+count]) {
			t.Fatalf("Slice(%v, %d, %d) = %v", l, a+b, count, want)
		}
	}
}

// TestJoinKeepsBytes: P9.4, Join does not change the bytes of a list, and nothing is left to be joined.
func TestJoinKeepsBytes(t *testing.T) {
	n := numbers(3)
	for range 5000 {
		l := n.list(30)
		joined, e := iov.Join(l)
		if e != api.OK || !slices.Equal(addresses(joined), addresses(l)) {
			t.Fatalf("Join(%v) = %v, %v", l, joined, e)
		}
		expectJoin(t, joined, joined, api.OK)
	}
}

// TestScatterGather: P9.4, what Scatter writes to a list without overlapping parts, Gather returns; other bytes are not changed.
func TestScatterGather(t *testing.T) {
	n := numbers(4)
	for range 5000 {
		l, mem := apart(n.list(30)), n.bytes(30)
		all := addresses(l)
		offset := n.below(len(all) + 1)
		data := n.bytes(n.below(20))
		before := bytes.Clone(mem)
		count, e := iov.Scatter(mem, l, int64(offset), data)
		if e != api.OK {
			t.Fatalf("Scatter(%v, %d): %v", l, offset, e)
		}
		expectGather(t, string(mem), l, int64(offset), count, string(data[:count]), api.OK)
		written := all[offset : offset+int(count)]
		for a := range mem {
			if mem[a] != before[a] && !slices.Contains(written, int64(a)) {
				t.Fatalf("Scatter(%v, %d) changed the byte %d", l, offset, a)
			}
		}
	}
}

// TestCopyIsGatherAndScatter: P9.4, also within one memory.
func TestCopyIsGatherAndScatter(t *testing.T) {
	n := numbers(5)
	for step := range 5000 {
		to, from, dst := n.list(30), n.list(30), n.bytes(30)
		src := n.bytes(30)
		if step%2 == 0 {
			src = dst
		}
		want := bytes.Clone(dst)
		length, _ := iov.Length(from)
		data, _ := iov.Gather(src, from, 0, length)
		wantCount, _ := iov.Scatter(want, to, 0, data)
		count, e := iov.Copy(dst, to, src, from)
		if count != wantCount || e != api.OK || !bytes.Equal(dst, want) {
			t.Fatalf("Copy from %v to %v = %d, %v, the memory is %v; want %d, the memory %v", from, to, count, e, dst, wantCount, want)
		}
	}
}
