package tests

import (
	"bytes"
	"encoding/binary"
	"math"
	"slices"
	"testing"

	"loop.example/g00958/impl"
)

// varints are numbers with the only encoding that each of them has.
var varints = []struct {
	n    int
	text []byte
}{
	{0, []byte{0}},
	{1, []byte{1}},
	{127, []byte{127}},
	{128, []byte{128, 1}},
	{129, []byte{129, 1}},
	{255, []byte{255, 1}},
	{256, []byte{128, 2}},
	{300, []byte{172, 2}},
	{16383, []byte{255, 127}},
	{16384, []byte{128, 128, 1}},
	{2097151, []byte{255, 255, 127}},
	{2097152, []byte{128, 128, 128, 1}},
	{268435455, []byte{255, 255, 255, 127}},
	{268435456, []byte{128, 128, 128, 128, 1}},
	{math.MaxInt32 + 1, []byte{128, 128, 128, 128, 8}},
	{1<<35 - 1, []byte{255, 255, 255, 255, 127}},
	{1 << 35, []byte{128, 128, 128, 128, 128, 1}},
	{impl.MaxValue - 1, []byte{255, 159, 148, 165, 141, 29}},
	{impl.MaxValue, []byte{128, 160, 148, 165, 141, 29}},
}

var outOfRange = []int{-1, -127, -128, -300, impl.MaxValue + 1, 1 << 42, math.MaxInt, math.MinInt, -impl.MaxValue}

// roomy returns a slice with the elements of b and, behind its end, spare room
// filled with marks, and a function that reports whether all of it is as it
// was.
func roomy[T byte | int](b []T) ([]T, func() bool) {
	whole := append(slices.Clone(b), slices.Repeat([]T{99}, 64)...)
	before := slices.Clone(whole)
	return whole[:len(b)], func() bool { return slices.Equal(whole, before) }
}

// sharesMemory reports whether a change of one slice, spare room included,
// shows in the other.
func sharesMemory(a, b []byte) bool {
	a, b = a[:cap(a)], b[:cap(b)]
	before := slices.Clone(b)
	for i := range a {
		a[i] ^= 255
	}
	shown := !bytes.Equal(b, before)
	for i := range a {
		a[i] ^= 255
	}
	return shown
}

func TestAppendUvarint(t *testing.T) {
	for _, c := range varints {
		for _, prefix := range [][]byte{nil, {}, {9}, {128}, {1, 2, 255}} {
			want := append(slices.Clone(prefix), c.text...)
			if got := impl.AppendUvarint(prefix, c.n); !bytes.Equal(got, want) {
				t.Errorf("AppendUvarint(%v, %d) is %v, not %v", prefix, c.n, got, want)
			}
		}
	}
}

func TestAppendUvarintOutOfRange(t *testing.T) {
	for _, n := range outOfRange {
		for _, prefix := range [][]byte{nil, {}, {9}, {1, 2, 255}} {
			if got := impl.AppendUvarint(prefix, n); !bytes.Equal(got, prefix) {
				t.Errorf("AppendUvarint(%v, %d) is %v", prefix, n, got)
			}
		}
	}
}

func TestAppendUvarintLeavesItsArgument(t *testing.T) {
	for _, n := range append([]int{0, 127, 128, 300, impl.MaxValue}, outOfRange...) {
		b, unchanged := roomy([]byte{1, 2, 3})
		got := impl.AppendUvarint(b, n)
		if !unchanged() {
			t.Errorf("AppendUvarint of %d writes into its argument", n)
		}
		if sharesMemory(got, b) {
			t.Errorf("AppendUvarint of %d shares memory with its argument", n)
		}
	}
	whole := []byte{1, 2}
	if impl.AppendUvarint(whole[:0], 7); whole[0] != 1 {
		t.Error("AppendUvarint writes behind an empty argument")
	}
}

func TestReadUvarint(t *testing.T) {
	for _, c := range varints {
		for _, prefix := range [][]byte{nil, {9}, {128, 128, 128}} {
			for _, suffix := range [][]byte{nil, {0}, {255, 255}} {
				b := slices.Concat(prefix, c.text, suffix)
				n, next, ok := impl.ReadUvarint(b, len(prefix))
				if n != c.n || next != len(prefix)+len(c.text) || !ok {
					t.Errorf("ReadUvarint(%v, %d) is %d, %d, %t", b, len(prefix), n, next, ok)
				}
			}
		}
	}
}

func TestReadUvarintRejects(t *testing.T) {
	groups := map[string][][]byte{
		"empty":        {nil, {}},
		"cut":          {{128}, {255}, {172}, {128, 128}, {255, 255, 255, 255, 255}, {128, 160, 148, 165, 141}},
		"too long":     {{128, 128, 128, 128, 128, 128}, {129, 128, 128, 128, 128, 128, 1}, {128, 128, 128, 128, 128, 128, 0}, {255, 255, 255, 255, 255, 255, 255, 255, 255, 1}},
		"not minimal":  {{128, 0}, {129, 0}, {255, 0}, {172, 130, 0}, {128, 128, 0}, {255, 255, 255, 0}, {128, 128, 128, 128, 0}, {128, 128, 128, 128, 128, 0}, {255, 255, 255, 255, 255, 0}},
		"beyond":       {{129, 160, 148, 165, 141, 29}, {255, 160, 148, 165, 141, 29}, {128, 161, 148, 165, 141, 29}, {128, 160, 148, 165, 141, 30}, {255, 255, 255, 255, 255, 127}},
		"and no later": {{128, 0, 5, 7}, {128, 128, 128, 128, 128, 128, 5}},
	}
	for name, inputs := range groups {
		for _, b := range inputs {
			if n, next, ok := impl.ReadUvarint(b, 0); n != 0 || next != 0 || ok {
				t.Errorf("%s: ReadUvarint(%v, 0) is %d, %d, %t", name, b, n, next, ok)
			}
			shifted := append([]byte{1, 2}, b...)
			if n, next, ok := impl.ReadUvarint(shifted, 2); n != 0 || next != 0 || ok {
				t.Errorf("%s: ReadUvarint(%v, 2) is %d, %d, %t", name, shifted, n, next, ok)
			}
		}
	}
}

func TestReadUvarintOffsets(t *testing.T) {
	b, _ := roomy([]byte{5, 172, 2})
	for offset, want := range map[int][2]int{0: {5, 1}, 1: {300, 3}, 2: {2, 3}} {
		if n, next, ok := impl.ReadUvarint(b, offset); n != want[0] || next != want[1] || !ok {
			t.Errorf("at %d: %d, %d, %t", offset, n, next, ok)
		}
	}
	for _, offset := range []int{-1, -3, 3, 4, 64, math.MaxInt, math.MaxInt - 1, math.MaxInt - 6, math.MinInt, 1 << 32} {
		if n, next, ok := impl.ReadUvarint(b, offset); n != 0 || next != 0 || ok {
			t.Errorf("at %d: %d, %d, %t", offset, n, next, ok)
		}
	}
	for _, offset := range []int{-1, 0, 1} {
		if n, next, ok := impl.ReadUvarint(nil, offset); n != 0 || next != 0 || ok {
			t.Errorf("of nil at %d: %d, %d, %t", offset, n, next, ok)
		}
	}
}

// TestReadUvarintIgnoresSpareRoom cuts a varint by the length of the slice
// only: its last byte is still there, behind the end.
func TestReadUvarintIgnoresSpareRoom(t *testing.T) {
	for _, c := range varints {
		for end := range len(c.text) {
			if n, next, ok := impl.ReadUvarint(c.text[:end], 0); n != 0 || next != 0 || ok {
				t.Errorf("ReadUvarint of %v is %d, %d, %t", c.text[:end], n, next, ok)
			}
		}
	}
}

// TestReadUvarintAgainstTheLibrary holds all inputs of up to seven bytes of a
// small alphabet against encoding/binary, which accepts encodings that are not
// minimal; these have other bytes than the number has when it is written.
func TestReadUvarintAgainstTheLibrary(t *testing.T) {
	alphabet := []byte{0, 1, 29, 127, 128, 255}
	var b [7]byte
	var fill func(length, i int)
	fill = func(length, i int) {
		if i < length {
			for _, c := range alphabet {
				b[i] = c
				fill(length, i+1)
			}
			return
		}
		checkAgainstTheLibrary(t, b[:length])
	}
	for length := range len(b) + 1 {
		fill(length, 0)
	}
}

func checkAgainstTheLibrary(t *testing.T, b []byte) {
	n, next, ok := impl.ReadUvarint(b, 0)
	value, size := binary.Uvarint(b)
	accepted := size > 0 && size <= 6 && value <= impl.MaxValue
	if accepted {
		accepted = bytes.Equal(binary.AppendUvarint(nil, value), b[:size])
	}
	if !accepted {
		value, size = 0, 0
	}
	if ok != accepted || n != int(value) || next != size {
		t.Errorf("ReadUvarint(%v, 0) is %d, %d, %t", b, n, next, ok)
	}
}

func TestReadUvarintInvertsAppendUvarint(t *testing.T) {
	check := func(n int) {
		b := impl.AppendUvarint([]byte{200}, n)
		if got, next, ok := impl.ReadUvarint(b, 1); got != n || next != len(b) || !ok {
			t.Errorf("%d is read as %d, %d, %t from %v", n, got, next, ok, b)
		}
	}
	for n := range 40000 {
		check(n)
		check(impl.MaxValue - n)
	}
	for p := 1; p < impl.MaxValue; p *= 2 {
		check(p - 1)
		check(p)
		check(p + 1)
	}
}

func TestAppendBytes(t *testing.T) {
	long := bytes.Repeat([]byte{7}, 300)
	cases := []struct{ b, data, want []byte }{
		{nil, nil, []byte{0}},
		{[]byte{}, []byte{}, []byte{0}},
		{[]byte{1}, nil, []byte{1, 0}},
		{nil, []byte{0}, []byte{1, 0}},
		{[]byte{1}, []byte{7, 8}, []byte{1, 2, 7, 8}},
		{[]byte{255, 128}, []byte{128, 255, 0}, []byte{255, 128, 3, 128, 255, 0}},
		{nil, long[:127], append([]byte{127}, long[:127]...)},
		{nil, long[:128], append([]byte{128, 1}, long[:128]...)},
		{[]byte{5}, long, append([]byte{5, 172, 2}, long...)},
	}
	for _, c := range cases {
		if got := impl.AppendBytes(c.b, c.data); !bytes.Equal(got, c.want) {
			t.Errorf("AppendBytes(%v, %v) is %v", c.b, c.data, got)
		}
	}
}

func TestAppendBytesLeavesItsArguments(t *testing.T) {
	for _, length := range []int{0, 1, 20} {
		b, bUnchanged := roomy([]byte{1, 2, 3})
		data, dataUnchanged := roomy(bytes.Repeat([]byte{4}, length))
		got := impl.AppendBytes(b, data)
		if !bUnchanged() || !dataUnchanged() {
			t.Errorf("AppendBytes of %d bytes writes into an argument", length)
		}
		if sharesMemory(got, b) || sharesMemory(got, data) {
			t.Errorf("AppendBytes of %d bytes shares memory with an argument", length)
		}
	}
	b, unchanged := roomy([]byte{1, 2, 3})
	if got := impl.AppendBytes(b, b); !bytes.Equal(got, []byte{1, 2, 3, 3, 1, 2, 3}) || !unchanged() {
		t.Errorf("AppendBytes of a slice to itself is %v", got)
	}
}

func TestReadBytes(t *testing.T) {
	cases := []struct {
		b              []byte
		offset, maxLen int
		data           []byte
		next           int
	}{
		{[]byte{0}, 0, 0, nil, 1},
		{[]byte{0}, 0, 5, nil, 1},
		{[]byte{9, 0, 9}, 1, 0, nil, 2},
		{[]byte{1, 2, 7, 8}, 1, 2, []byte{7, 8}, 4},
		{[]byte{1, 2, 7, 8}, 1, 3, []byte{7, 8}, 4},
		{[]byte{1, 2, 7, 8}, 1, math.MaxInt, []byte{7, 8}, 4},
		{[]byte{1, 2, 7, 8}, 0, 1, []byte{2}, 2},
		{[]byte{2, 7, 8, 9}, 0, 2, []byte{7, 8}, 3},
		{[]byte{2, 128, 255}, 0, 2, []byte{128, 255}, 3},
	}
	for _, c := range cases {
		data, next, ok := impl.ReadBytes(c.b, c.offset, c.maxLen)
		if !bytes.Equal(data, c.data) || next != c.next || !ok {
			t.Errorf("ReadBytes(%v, %d, %d) is %v, %d, %t", c.b, c.offset, c.maxLen, data, next, ok)
		}
	}
}

func TestReadBytesRejects(t *testing.T) {
	longest := impl.AppendUvarint(nil, impl.MaxValue)
	cases := []struct {
		name           string
		b              []byte
		offset, maxLen int
	}{
		{"no prefix", nil, 0, 5},
		{"prefix cut", []byte{128}, 0, 200},
		{"prefix not minimal", []byte{129, 0, 7}, 0, 5},
		{"empty, prefix not minimal", []byte{128, 0}, 0, 5},
		{"prefix too long", []byte{128, 128, 128, 128, 128, 128, 0}, 0, 5},
		{"prefix too great", []byte{129, 160, 148, 165, 141, 29, 7}, 0, math.MaxInt},
		{"one byte longer than maxLen", []byte{2, 7, 8}, 0, 1},
		{"longer than none", []byte{1, 7}, 0, 0},
		{"negative maxLen", []byte{0}, 0, -1},
		{"negative maxLen, bytes", []byte{1, 7}, 0, -1},
		{"least maxLen", []byte{0}, 0, math.MinInt},
		{"cut short by one", []byte{3, 7, 8}, 0, 3},
		{"cut behind its prefix", []byte{1}, 0, 1},
		{"cut, at an offset", []byte{9, 9, 3, 7, 8}, 2, 3},
		{"far too short", longest, 0, math.MaxInt},
		{"far too short for maxLen", append(longest, 1, 2), 0, impl.MaxValue},
		{"offset at the end", []byte{1, 7}, 2, 5},
		{"offset beyond the end", []byte{1, 7}, 3, 5},
		{"negative offset", []byte{1, 7}, -1, 5},
		{"greatest offset", []byte{1, 7}, math.MaxInt, 5},
		{"least offset", []byte{1, 7}, math.MinInt, 5},
	}
	for _, c := range cases {
		b, unchanged := roomy(c.b)
		data, next, ok := impl.ReadBytes(b, c.offset, c.maxLen)
		if len(data) != 0 || next != 0 || ok {
			t.Errorf("%s: %v, %d, %t", c.name, data, next, ok)
		}
		if !unchanged() {
			t.Errorf("%s: the argument was changed", c.name)
		}
	}
}

func TestReadBytesReturnsNewMemory(t *testing.T) {
	for _, length := range []byte{0, 1, 3} {
		b, unchanged := roomy(append([]byte{length}, bytes.Repeat([]byte{5}, int(length))...))
		data, _, ok := impl.ReadBytes(b, 0, 3)
		if !ok || !unchanged() || sharesMemory(data, b) {
			t.Errorf("%d bytes: %t, %v", length, ok, b)
		}
	}
}

func TestReadBytesInvertsAppendBytes(t *testing.T) {
	data := make([]byte, 0, 400)
	for i := range cap(data) {
		b := append(impl.AppendBytes([]byte{1, 2}, data), 3)
		got, next, ok := impl.ReadBytes(b, 2, len(data))
		if !bytes.Equal(got, data) || next != len(b)-1 || !ok {
			t.Errorf("%d bytes: %v, %d, %t", len(data), got, next, ok)
		}
		got, next, ok = impl.ReadBytes(b, 2, len(data)-1)
		if len(got) != 0 || next != 0 || ok {
			t.Errorf("%d bytes are not too long: %v, %d, %t", len(data), got, next, ok)
		}
		data = append(data, byte(i*37))
	}
}

func TestEncodeInts(t *testing.T) {
	cases := []struct {
		values []int
		want   []byte
	}{
		{nil, nil},
		{[]int{}, nil},
		{[]int{0}, []byte{0}},
		{[]int{5, 300}, []byte{5, 172, 2}},
		{[]int{300, 5}, []byte{172, 2, 5}},
		{[]int{0, 0, 0}, []byte{0, 0, 0}},
		{[]int{-1}, nil},
		{[]int{-1, 5}, []byte{5}},
		{[]int{5, impl.MaxValue + 1}, []byte{5}},
		{[]int{5, -1, 300, impl.MaxValue + 1, 127}, []byte{5, 172, 2, 127}},
		{[]int{impl.MaxValue, math.MaxInt, math.MinInt, 0}, []byte{128, 160, 148, 165, 141, 29, 0}},
	}
	for _, c := range cases {
		before := slices.Clone(c.values)
		if got := impl.EncodeInts(c.values); !bytes.Equal(got, c.want) {
			t.Errorf("EncodeInts(%v) is %v", c.values, got)
		}
		if !slices.Equal(c.values, before) {
			t.Errorf("EncodeInts has changed %v to %v", before, c.values)
		}
	}
	var values []int
	var want []byte
	for range 20 {
		for _, c := range varints {
			values = append(values, c.n)
			want = append(want, c.text...)
		}
		values = append(values, outOfRange...)
	}
	if got := impl.EncodeInts(values); !bytes.Equal(got, want) {
		t.Errorf("EncodeInts of %d numbers is %v", len(values), got)
	}
}

func TestDecodeInts(t *testing.T) {
	cases := []struct {
		b             []byte
		offset, count int
		want          []int
		next          int
	}{
		{nil, 0, 0, nil, 0},
		{[]byte{5}, 0, 0, nil, 0},
		{[]byte{5}, 1, 0, nil, 1},
		{[]byte{128, 0}, 0, 0, nil, 0},
		{[]byte{128, 0}, 1, 0, nil, 1},
		{[]byte{5, 172, 2}, 0, 1, []int{5}, 1},
		{[]byte{5, 172, 2}, 0, 2, []int{5, 300}, 3},
		{[]byte{5, 172, 2}, 1, 1, []int{300}, 3},
		{[]byte{5, 172, 2}, 2, 1, []int{2}, 3},
		{[]byte{5, 172, 2}, 3, 0, nil, 3},
		{[]byte{0, 0, 128}, 0, 2, []int{0, 0}, 2},
	}
	for _, c := range cases {
		values, next, ok := impl.DecodeInts(c.b, c.offset, c.count)
		if !slices.Equal(values, c.want) || next != c.next || !ok {
			t.Errorf("DecodeInts(%v, %d, %d) is %v, %d, %t", c.b, c.offset, c.count, values, next, ok)
		}
	}
}

func TestDecodeIntsRejects(t *testing.T) {
	cases := []struct {
		name          string
		b             []byte
		offset, count int
	}{
		{"negative count", []byte{5, 6}, 0, -1},
		{"least count", []byte{5, 6}, 0, math.MinInt},
		{"greatest count", []byte{5, 6}, 0, math.MaxInt},
		{"one too many", []byte{5, 172, 2}, 0, 3},
		{"none there", nil, 0, 1},
		{"offset at the end", []byte{5, 6}, 2, 1},
		{"offset beyond the end", []byte{5, 6}, 3, 1},
		{"nothing at a negative offset", []byte{5, 6}, -1, 0},
		{"nothing beyond the end", []byte{5, 6}, 3, 0},
		{"nothing beyond the end of nil", nil, 1, 0},
		{"nothing at the greatest offset", []byte{5, 6}, math.MaxInt, 0},
		{"nothing at the least offset", []byte{5, 6}, math.MinInt, 0},
		{"negative offset", []byte{5, 6}, -1, 1},
		{"first not minimal", []byte{128, 0, 5}, 0, 1},
		{"last not minimal", []byte{5, 172, 2, 129, 0}, 0, 3},
		{"one between not minimal", []byte{5, 129, 0, 6}, 0, 3},
		{"last cut", []byte{5, 6, 128}, 0, 3},
		{"last too great", []byte{5, 129, 160, 148, 165, 141, 29}, 0, 2},
		{"last too long", []byte{5, 128, 128, 128, 128, 128, 128, 1}, 0, 2},
	}
	for _, c := range cases {
		b, unchanged := roomy(c.b)
		values, next, ok := impl.DecodeInts(b, c.offset, c.count)
		if len(values) != 0 || next != 0 || ok {
			t.Errorf("%s: %v, %d, %t", c.name, values, next, ok)
		}
		if !unchanged() {
			t.Errorf("%s: the argument was changed", c.name)
		}
	}
}

func TestDecodeIntsCounts(t *testing.T) {
	var values []int
	for i := range 102 {
		values = append(values, i*i*i)
	}
	b := impl.EncodeInts(values)
	for _, count := range []int{0, 1, 99, 100} {
		got, next, ok := impl.DecodeInts(b, 0, count)
		if !slices.Equal(got, values[:count]) || next != len(impl.EncodeInts(values[:count])) || !ok {
			t.Errorf("count %d: %v, %d, %t", count, got, next, ok)
		}
	}
	for _, count := range []int{-100, -1, 101, 102, 103} {
		if got, next, ok := impl.DecodeInts(b, 0, count); len(got) != 0 || next != 0 || ok {
			t.Errorf("count %d: %v, %d, %t", count, got, next, ok)
		}
	}
}

func TestDecodeIntsReturnsNewMemory(t *testing.T) {
	b := impl.EncodeInts([]int{1, 2, 300})
	before := slices.Clone(b)
	first, _, _ := impl.DecodeInts(b, 0, 3)
	second, _, _ := impl.DecodeInts(b, 0, 3)
	clear(first[:cap(first)])
	if !slices.Equal(second, []int{1, 2, 300}) || !bytes.Equal(b, before) {
		t.Errorf("a change of one result shows: %v, %v", second, b)
	}
}

func TestEqualBytes(t *testing.T) {
	cases := []struct {
		a, b []byte
		want bool
	}{
		{nil, nil, true},
		{nil, []byte{}, true},
		{[]byte{}, nil, true},
		{[]byte{}, []byte{}, true},
		{[]byte{0}, nil, false},
		{nil, []byte{0}, false},
		{[]byte{1}, []byte{1}, true},
		{[]byte{1}, []byte{2}, false},
		{[]byte{1, 2}, []byte{1, 2}, true},
		{[]byte{1, 2}, []byte{2, 1}, false},
		{[]byte{1, 2}, []byte{1, 3}, false},
		{[]byte{3, 2}, []byte{1, 2}, false},
		{[]byte{1, 2}, []byte{1, 2, 0}, false},
		{[]byte{1, 2, 0}, []byte{1, 2}, false},
		{[]byte{1, 2, 3}, []byte{2, 3}, false},
		{[]byte{255}, []byte{255}, true},
		{[]byte{128}, []byte{0}, false},
	}
	for _, c := range cases {
		a, aUnchanged := roomy(c.a)
		b, bUnchanged := roomy(c.b)
		if impl.EqualBytes(c.a, c.b) != c.want || impl.EqualBytes(a, b) != c.want {
			t.Errorf("EqualBytes(%v, %v) is not %t", c.a, c.b, c.want)
		}
		if !aUnchanged() || !bUnchanged() {
			t.Errorf("EqualBytes(%v, %v) changes an argument", c.a, c.b)
		}
	}
	a := bytes.Repeat([]byte{3}, 1000)
	for i := range a {
		b := slices.Clone(a)
		b[i] = 4
		if impl.EqualBytes(a, b) || impl.EqualBytes(b, a) || !impl.EqualBytes(b, slices.Clone(b)) {
			t.Errorf("a difference at %d", i)
		}
	}
}
