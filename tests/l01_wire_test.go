package tests

import (
	"bytes"
	"encoding/binary"
	"hash/crc32"
	"math"
	"testing"

	"loop.example/g00800/impl"
)

const maxZigZag = 1000000000000

// someNumbers are small ones, those around each power of 2 and each multiple
// of 7 bits, and the greatest int64.
func someNumbers() []int64 {
	list := []int64{300, 16383, 999999, maxZigZag, math.MaxInt64 - 1, math.MaxInt64}
	for n := range int64(1000) {
		list = append(list, n)
	}
	for bit := range 63 {
		n := int64(1) << bit
		list = append(list, n-1, n, n+1, n+n/3)
	}
	return list
}

// someBytes is the same pattern at each call, with no short period.
func someBytes(size int) []byte {
	data := make([]byte, size)
	state := uint32(size) + 1
	for i := range data {
		state = state*1664525 + 1013904223
		data[i] = byte(state >> 24)
	}
	return data
}

// crcByBits follows the words of the document bit by bit.
func crcByBits(data []byte) int64 {
	sum := int64(4294967295)
	for _, b := range data {
		sum ^= int64(b)
		for range 8 {
			odd := sum%2 == 1
			sum /= 2
			if odd {
				sum ^= 3988292384
			}
		}
	}
	return sum ^ 4294967295
}

func mustPut(t *testing.T, n int64) []byte {
	t.Helper()
	got := impl.PutVar(n)
	if got.Code != impl.OK {
		t.Fatalf("PutVar(%d) has code %d", n, got.Code)
	}
	return got.Bytes
}

func wantInt(t *testing.T, name string, n int64, got impl.IntResult, want impl.IntResult) {
	t.Helper()
	if got != want {
		t.Errorf("%s(%d) is %+v, not %+v", name, n, got, want)
	}
}

func wantRead(t *testing.T, data []byte, want impl.ReadResult) {
	t.Helper()
	if got := impl.ReadVar(data); got != want {
		t.Errorf("ReadVar(%v) is %+v, not %+v", data, got, want)
	}
}

func TestCodes(t *testing.T) {
	got := []int64{impl.OK, impl.ErrForm, impl.ErrMany, impl.ErrRange, impl.ErrNone, impl.ErrText, impl.ErrSum, impl.ErrOrder, impl.MaxData}
	want := []int64{0, 1, 2, 3, 4, 5, 6, 7, 4000}
	for i, code := range got {
		if code != want[i] {
			t.Errorf("constant %d is %d, not %d", i, code, want[i])
		}
	}
}

func TestPutVarHasTheBytesOfTheDocument(t *testing.T) {
	full := []byte{255, 255, 255, 255, 255, 255, 255, 255}
	cases := []struct {
		n    int64
		want []byte
	}{
		{0, []byte{0}},
		{1, []byte{1}},
		{127, []byte{127}},
		{128, []byte{128, 1}},
		{300, []byte{172, 2}},
		{16383, []byte{255, 127}},
		{16384, []byte{128, 128, 1}},
		{1<<56 - 1, append(full[:7:7], 127)},
		{1 << 56, []byte{128, 128, 128, 128, 128, 128, 128, 128, 1}},
		{math.MaxInt64, append(full[:8:8], 127)},
	}
	for _, c := range cases {
		if got := mustPut(t, c.n); !bytes.Equal(got, c.want) {
			t.Errorf("PutVar(%d) is %v, not %v", c.n, got, c.want)
		}
	}
	for _, n := range someNumbers() {
		if got := mustPut(t, n); !bytes.Equal(got, binary.AppendUvarint(nil, uint64(n))) {
			t.Errorf("PutVar(%d) is %v", n, got)
		}
	}
}

func TestPutVarRefusesNumbersBelow0(t *testing.T) {
	for _, n := range []int64{-1, -2, -127, -128, -300, -maxZigZag, math.MinInt64 + 1, math.MinInt64} {
		if got := impl.PutVar(n); got.Code != impl.ErrRange || len(got.Bytes) != 0 {
			t.Errorf("PutVar(%d) is %+v", n, got)
		}
	}
}

func TestNumbersAreReadBackWhateverStandsBehind(t *testing.T) {
	tails := [][]byte{nil, {0}, {1}, {127}, {128}, {255}, {0, 0}, {128, 0}, someBytes(20), someBytes(5000)}
	for _, n := range someNumbers() {
		data := mustPut(t, n)
		for _, tail := range tails {
			got := impl.ReadVar(append(data[:len(data):len(data)], tail...))
			if want := (impl.ReadResult{Value: n, Size: int64(len(data))}); got != want {
				t.Fatalf("%d is read back as %+v before %d bytes", n, got, len(tail))
			}
		}
	}
}

func TestReadVarRefusesBytesThatAreCutOff(t *testing.T) {
	for _, n := range someNumbers() {
		data := mustPut(t, n)
		for size := range data {
			wantRead(t, data[:size], impl.ReadResult{Code: impl.ErrText})
			wantRead(t, data[:size:size], impl.ReadResult{Code: impl.ErrText})
		}
	}
	wantRead(t, nil, impl.ReadResult{Code: impl.ErrText})
	wantRead(t, []byte{}, impl.ReadResult{Code: impl.ErrText})
}

// A 0 behind a number that had bytes enough would be a second form of it.
func TestReadVarRefusesANoughtBehind(t *testing.T) {
	for size := 2; size <= 12; size++ {
		data := bytes.Repeat([]byte{128}, size)
		data[size-1] = 0
		wantRead(t, data, impl.ReadResult{Code: impl.ErrText})
		data[0] = 129
		wantRead(t, data, impl.ReadResult{Code: impl.ErrText})
		wantRead(t, append(data, 1), impl.ReadResult{Code: impl.ErrText})
	}
	wantRead(t, []byte{0}, impl.ReadResult{Size: 1})
	wantRead(t, []byte{0, 0}, impl.ReadResult{Size: 1})
	wantRead(t, []byte{0, 128}, impl.ReadResult{Size: 1})
	wantRead(t, []byte{128, 128, 1, 0}, impl.ReadResult{Value: 16384, Size: 3})
}

func TestReadVarRefusesMoreThanNineBytes(t *testing.T) {
	for _, last := range []byte{0, 1, 2, 127} {
		for size := 10; size <= 70; size++ {
			data := bytes.Repeat([]byte{255}, size)
			data[size-1] = last
			wantRead(t, data, impl.ReadResult{Code: impl.ErrText})
		}
	}
	wantRead(t, bytes.Repeat([]byte{128}, 5000), impl.ReadResult{Code: impl.ErrText})
	nine := []byte{255, 255, 255, 255, 255, 255, 255, 255, 127}
	wantRead(t, nine, impl.ReadResult{Value: math.MaxInt64, Size: 9})
	wantRead(t, append(nine, 1), impl.ReadResult{Value: math.MaxInt64, Size: 9})
}

// checkOneForm: what is read is what PutVar writes, and what is refused is
// what the standard reader refuses, or a longer form of a number.
func checkOneForm(t *testing.T, data []byte) {
	t.Helper()
	got := impl.ReadVar(data)
	n, size := binary.Uvarint(data)
	form := []byte(nil)
	if size > 0 && n <= math.MaxInt64 {
		form = binary.AppendUvarint(nil, n)
	}
	want := impl.ReadResult{Code: impl.ErrText}
	if form != nil && len(form) == size {
		want = impl.ReadResult{Value: int64(n), Size: int64(size)}
	}
	if got != want {
		t.Fatalf("ReadVar(%v) is %+v, not %+v", data, got, want)
	}
	if got.Code == impl.OK && !bytes.Equal(mustPut(t, got.Value), data[:got.Size]) {
		t.Fatalf("%v is a second form of %d", data, got.Value)
	}
}

func TestEachNumberHasOneForm(t *testing.T) {
	edges := []byte{0, 1, 2, 64, 126, 127, 128, 129, 255}
	for first := range 256 {
		checkOneForm(t, []byte{byte(first)})
		for second := range 256 {
			checkOneForm(t, []byte{byte(first), byte(second)})
			for _, third := range edges {
				checkOneForm(t, []byte{byte(first), byte(second), third})
			}
		}
	}
	for size := 3; size <= 12; size++ {
		for _, a := range edges {
			for _, b := range edges {
				checkOneForm(t, append(bytes.Repeat([]byte{255}, size-2), a, b))
				checkOneForm(t, append(bytes.Repeat([]byte{128}, size-2), a, b))
			}
		}
	}
}

func TestZigZagOfTheDocument(t *testing.T) {
	cases := []struct{ n, want int64 }{
		{0, 0}, {-1, 1}, {1, 2}, {-2, 3}, {2, 4}, {-3, 5}, {3, 6},
		{-999999, 1999997}, {999999, 1999998},
		{-maxZigZag + 1, 2*maxZigZag - 3}, {maxZigZag - 1, 2*maxZigZag - 2},
		{-maxZigZag, 2*maxZigZag - 1}, {maxZigZag, 2 * maxZigZag},
	}
	for _, c := range cases {
		wantInt(t, "ZigZag", c.n, impl.ZigZag(c.n), impl.IntResult{Value: c.want})
		wantInt(t, "ZagZig", c.want, impl.ZagZig(c.want), impl.IntResult{Value: c.n})
	}
}

func TestZigZagRefusesWhatIsOutOfBounds(t *testing.T) {
	none := impl.IntResult{Code: impl.ErrRange}
	for _, n := range []int64{maxZigZag + 1, maxZigZag + 2, 2 * maxZigZag, math.MaxInt64/2 + 1, math.MaxInt64 - 1, math.MaxInt64} {
		wantInt(t, "ZigZag", n, impl.ZigZag(n), none)
		wantInt(t, "ZigZag", -n, impl.ZigZag(-n), none)
	}
	wantInt(t, "ZigZag", math.MinInt64, impl.ZigZag(math.MinInt64), none)
	for _, n := range []int64{-1, -2, -5, -2 * maxZigZag, math.MinInt64 + 1, math.MinInt64, 2*maxZigZag + 1, 2*maxZigZag + 2, math.MaxInt64 - 1, math.MaxInt64} {
		wantInt(t, "ZagZig", n, impl.ZagZig(n), none)
	}
}

func TestZigZagAndBackBothWays(t *testing.T) {
	for _, middle := range []int64{0, 1 << 20, 1 << 31, 1 << 32, maxZigZag - 500} {
		for n := middle - 500; n <= middle+500; n++ {
			for _, signed := range []int64{n, -n} {
				packed := impl.ZigZag(signed)
				if packed.Code != impl.OK || packed.Value < 0 {
					t.Fatalf("ZigZag(%d) is %+v", signed, packed)
				}
				wantInt(t, "ZagZig", packed.Value, impl.ZagZig(packed.Value), impl.IntResult{Value: signed})
			}
		}
	}
	for _, first := range []int64{0, 1 << 33, 2*maxZigZag - 1000} {
		for k := first; k <= first+1000; k++ {
			plain := impl.ZagZig(k)
			if plain.Code != impl.OK {
				t.Fatalf("ZagZig(%d) is %+v", k, plain)
			}
			wantInt(t, "ZigZag", plain.Value, impl.ZigZag(plain.Value), impl.IntResult{Value: k})
		}
	}
}

func TestCrcOfIsTheSumOfTheDocument(t *testing.T) {
	cases := []struct {
		text string
		want int64
	}{
		{"", 0}, {"a", 3904355907}, {"123456789", 3421780262}, {"\x00", 3523407757}, {"\xff", 4278190080},
	}
	for _, c := range cases {
		if got := impl.CrcOf([]byte(c.text)); got != (impl.IntResult{Value: c.want}) {
			t.Errorf("CrcOf(%q) is %+v, not %d", c.text, got, c.want)
		}
	}
	for b := range 256 {
		checkCrc(t, []byte{byte(b)})
		checkCrc(t, []byte{byte(b), 77})
	}
	for size := range 300 {
		checkCrc(t, someBytes(size))
		checkCrc(t, make([]byte, size))
		checkCrc(t, bytes.Repeat([]byte{255}, size))
	}
	checkCrc(t, nil)
	checkCrc(t, someBytes(3999))
	checkCrc(t, someBytes(4000))
	checkCrc(t, make([]byte, 4000))
}

func checkCrc(t *testing.T, data []byte) {
	t.Helper()
	want := crcByBits(data)
	if other := int64(crc32.ChecksumIEEE(data)); other != want {
		t.Fatalf("the tests' own sum of %d bytes is %d, not %d", len(data), want, other)
	}
	if got := impl.CrcOf(data); got != (impl.IntResult{Value: want}) {
		t.Fatalf("CrcOf of %d bytes is %+v, not %d", len(data), got, want)
	}
}

func TestCrcOfRefusesTooManyBytes(t *testing.T) {
	for _, size := range []int{4001, 4002, 4096, 8000, 65536, 100000} {
		for _, data := range [][]byte{make([]byte, size), someBytes(size)} {
			if got := impl.CrcOf(data); got != (impl.IntResult{Code: impl.ErrMany}) {
				t.Errorf("CrcOf of %d bytes is %+v", size, got)
			}
		}
	}
	// Only the bytes of the slice count, not those that its memory has room for.
	if got := impl.CrcOf(make([]byte, 4000, 9000)); got.Code != impl.OK {
		t.Errorf("CrcOf of 4000 bytes with room for more is %+v", got)
	}
}

func TestATurnedBitTurnsTheSum(t *testing.T) {
	for size := 1; size <= 64; size++ {
		for at := range size {
			checkTurns(t, someBytes(size), at)
			checkTurns(t, make([]byte, size), at)
		}
	}
	for _, at := range []int{0, 1, 2, 1000, 1999, 3996, 3997, 3998, 3999} {
		checkTurns(t, someBytes(4000), at)
	}
}

func checkTurns(t *testing.T, data []byte, at int) {
	t.Helper()
	before := impl.CrcOf(data)
	for bit := range 8 {
		data[at] ^= 1 << bit
		after := impl.CrcOf(data)
		if before.Code != impl.OK || after.Code != impl.OK || before.Value == after.Value {
			t.Fatalf("bit %d at %d of %d bytes: %+v, then %+v", bit, at, len(data), before, after)
		}
		data[at] ^= 1 << bit
	}
}

func TestSameBytes(t *testing.T) {
	lists := [][]byte{{}, {0}, {1}, {0, 0}, {0, 1}, {1, 0}, {1, 1}, {1, 2, 3}, {1, 3, 2}, {3, 2, 1}, {1, 2, 4}, {1, 2, 3, 4}, {255}, someBytes(5000), someBytes(4999), someBytes(5000)[1:]}
	for i, a := range lists {
		for j, b := range lists {
			if got := impl.SameBytes(a, bytes.Clone(b)); got != (i == j) {
				t.Errorf("SameBytes of lists %d and %d is %v", i, j, got)
			}
		}
	}
	last := someBytes(5000)
	last[4999] ^= 1
	if impl.SameBytes(last, someBytes(5000)) {
		t.Error("the last one of 5000 bytes is not looked at")
	}
}

func TestSameBytesOfNothing(t *testing.T) {
	if !impl.SameBytes(nil, nil) || !impl.SameBytes(nil, []byte{}) || !impl.SameBytes([]byte{}, nil) {
		t.Error("nil and the empty list are not the same")
	}
	if impl.SameBytes(nil, []byte{0}) || impl.SameBytes([]byte{0}, nil) {
		t.Error("nil and one byte are the same")
	}
	if !impl.SameBytes([]byte{7, 8}, []byte{7, 8, 9}[:2]) {
		t.Error("bytes behind the end of a slice are looked at")
	}
}

// The slices passed have room behind them, in which nothing may be written either.
func TestNoArgumentIsChanged(t *testing.T) {
	calls := map[string]func(data []byte){
		"ReadVar":        func(data []byte) { impl.ReadVar(data) },
		"CrcOf":          func(data []byte) { impl.CrcOf(data) },
		"SameBytes":      func(data []byte) { impl.SameBytes(data, someBytes(len(data))) },
		"SameBytes twin": func(data []byte) { impl.SameBytes(bytes.Clone(data), data) },
	}
	inputs := [][]byte{{0}, {172, 2}, {128, 0}, {128, 128}, bytes.Repeat([]byte{255}, 12), someBytes(300), someBytes(4000), someBytes(4001)}
	for name, call := range calls {
		for _, input := range inputs {
			whole := append(bytes.Clone(input), someBytes(50)...)
			before := bytes.Clone(whole)
			call(whole[:len(input)])
			if !bytes.Equal(whole, before) {
				t.Errorf("%s changes an argument of %d bytes", name, len(input))
			}
		}
	}
}

func TestAnswersAreNewMemory(t *testing.T) {
	for _, n := range someNumbers() {
		first, second := mustPut(t, n), mustPut(t, n)
		want := bytes.Clone(first)
		for i := range first {
			first[i] ^= 255
		}
		_ = append(first, 1, 2, 3)
		if !bytes.Equal(second, want) || !bytes.Equal(mustPut(t, n), want) {
			t.Fatalf("two answers of PutVar(%d) share memory", n)
		}
	}
}

// allAnswers asks each function of the chapter about one number and some bytes.
func allAnswers(n int64, data []byte) []any {
	put := impl.PutVar(n)
	return []any{put.Code, string(put.Bytes), impl.ReadVar(data), impl.ZigZag(n), impl.ZagZig(n), impl.CrcOf(data), impl.SameBytes(data, put.Bytes)}
}

func TestAnswersHangOnTheArgumentsAlone(t *testing.T) {
	numbers := append(someNumbers()[:60:60], -1, -3, -maxZigZag-1, math.MinInt64)
	var before [][]any
	for i, n := range numbers {
		before = append(before, allAnswers(n, someBytes(i*70)))
	}
	for i := len(numbers) - 1; i >= 0; i-- {
		for k, answer := range allAnswers(numbers[i], someBytes(i*70)) {
			if answer != before[i][k] {
				t.Errorf("answer %d about %d is %v, and was %v", k, numbers[i], answer, before[i][k])
			}
		}
	}
}
