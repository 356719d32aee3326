package tests

import (
	"bytes"
	"encoding/binary"
	"encoding/hex"
	"math"
	"slices"
	"testing"

	"loop.example/g00800/impl"
)

func load(addr int64, value int64) impl.Event {
	return impl.Event{Kind: impl.KindLoad, Addr: addr, Value: value}
}

func store(addr int64, value int64) impl.Event {
	return impl.Event{Kind: impl.KindStore, Addr: addr, Value: value}
}

// manyOf is a row of so many times the same event.
func manyOf(count int, e impl.Event) []impl.Event {
	return slices.Repeat([]impl.Event{e}, count)
}

// someSteps are rows without a fault: short and full ones, ones that stay,
// rise, go back and swing between the ends, and some without any rule.
func someSteps() [][]impl.Event {
	lists := [][]impl.Event{
		nil,
		{},
		{load(0, 0)},
		{store(0, 0)},
		{load(999999, 999999)},
		{store(999999, 999999)},
		{store(3, 5), load(1, 300)},
		{load(1, 300), store(3, 5)},
		{load(7, 1), load(7, 1)},
		{store(999999, 0), store(0, 999999)},
		{load(0, 999999), load(999999, 0), load(0, 999999)},
		{load(5, 0), load(4, 127), store(3, 128), load(2, 16383), store(1, 16384), load(0, 1)},
	}
	for size := 1; size <= 8; size++ {
		lists = append(lists, manyOf(size, load(0, 0)), manyOf(size, store(999999, 999999)), patternSteps(size, int64(size)))
		swing := manyOf(size, load(0, 1))
		for i := range swing {
			swing[i].Kind = int64(i % 2)
			swing[i].Addr = int64(i%2) * 999999
		}
		lists = append(lists, swing)
	}
	return lists
}

// patternSteps is the same row at each call, with no rule that shows.
func patternSteps(size int, seed int64) []impl.Event {
	list := make([]impl.Event, size)
	state := uint64(seed) + 1
	next := func(count uint64) int64 {
		state = state*6364136223846793005 + 1442695040888963407
		return int64(state >> 33 % count)
	}
	for i := range list {
		list[i] = impl.Event{Kind: next(2), Addr: next(1000000), Value: next(1000000)}
	}
	return list
}

// packedHead is the first number of an event, by the words of the document.
func packedHead(kind int64, delta int64) uint64 {
	zigzag := 2 * delta
	if delta < 0 {
		zigzag = 2*-delta - 1
	}
	return uint64(2*zigzag + kind)
}

// packedByHand follows the words of the document, with the standard library's
// numbers.
func packedByHand(list []impl.Event) []byte {
	var out []byte
	ahead := int64(0)
	for _, e := range list {
		out = binary.AppendUvarint(out, packedHead(e.Kind, e.Addr-ahead))
		out = binary.AppendUvarint(out, uint64(e.Value))
		ahead = e.Addr
	}
	return out
}

// unpackedByHand looks for a row whose bytes data could be, and takes it only
// if packing it anew tells the same bytes.
func unpackedByHand(data []byte) ([]impl.Event, bool) {
	var list []impl.Event
	addr, rest := int64(0), data
	for len(rest) > 0 {
		head, headSize := binary.Uvarint(rest)
		value, valueSize := binary.Uvarint(rest[max(headSize, 0):])
		if headSize <= 0 || valueSize <= 0 || head > 5000000 || value > 999999 || len(list) == 8 {
			return nil, false
		}
		zigzag := int64(head / 2)
		delta := zigzag / 2
		if zigzag%2 == 1 {
			delta = -(zigzag + 1) / 2
		}
		addr += delta
		if addr < 0 || addr > 999999 {
			return nil, false
		}
		list = append(list, impl.Event{Kind: int64(head % 2), Addr: addr, Value: int64(value)})
		rest = rest[headSize+valueSize:]
	}
	return list, bytes.Equal(packedByHand(list), data)
}

func mustPack(t *testing.T, list []impl.Event) []byte {
	t.Helper()
	got := impl.PackSteps(list)
	if got.Code != impl.OK {
		t.Fatalf("PackSteps(%v) has code %d", list, got.Code)
	}
	return got.Bytes
}

func wantSteps(t *testing.T, data []byte, want []impl.Event) {
	t.Helper()
	got := impl.UnpackSteps(data)
	if got.Code != impl.OK || !slices.Equal(got.Events, want) {
		t.Fatalf("UnpackSteps(%v) is %+v, not %v", data, got, want)
	}
}

func wantNoSteps(t *testing.T, data []byte, code int64) {
	t.Helper()
	if got := impl.UnpackSteps(data); got.Code != code || len(got.Events) != 0 {
		t.Fatalf("UnpackSteps of %d bytes (%v ..) is %+v, not code %d alone", len(data), data[:min(len(data), 40)], got, code)
	}
}

func wantCode(t *testing.T, name string, got int64, want int64) {
	t.Helper()
	if got != want {
		t.Errorf("%s: code %d, not %d", name, got, want)
	}
}

func TestEventConstants(t *testing.T) {
	got := []int64{impl.KindLoad, impl.KindStore, impl.MaxCores, impl.MaxSteps, impl.MaxAddr, impl.MaxValue}
	if want := []int64{0, 1, 4, 8, 999999, 999999}; !slices.Equal(got, want) {
		t.Errorf("the constants are %v, not %v", got, want)
	}
}

// faultyEvents are events with a fault, each with its code: a Kind that is
// none is told ahead of a number that leaves its bounds.
func faultyEvents() map[impl.Event]int64 {
	faults := map[impl.Event]int64{}
	for _, kind := range []int64{-1, 2, 3, 256, -256, 1 << 32, math.MinInt64, math.MaxInt64} {
		for _, n := range []int64{0, 5, 999999, -1, 1000000} {
			faults[impl.Event{Kind: kind, Addr: n}] = impl.ErrForm
			faults[impl.Event{Kind: kind, Value: n}] = impl.ErrForm
			faults[impl.Event{Kind: kind, Addr: n, Value: n}] = impl.ErrForm
		}
	}
	for _, n := range []int64{-1, -2, -999999, 1000000, 1000001, 1 << 32, math.MinInt64, math.MaxInt64} {
		for kind := range int64(2) {
			for _, good := range []int64{0, 5, 999999} {
				faults[impl.Event{Kind: kind, Addr: n, Value: good}] = impl.ErrRange
				faults[impl.Event{Kind: kind, Addr: good, Value: n}] = impl.ErrRange
			}
			faults[impl.Event{Kind: kind, Addr: n, Value: n}] = impl.ErrRange
		}
	}
	return faults
}

func TestEventFault(t *testing.T) {
	for _, addr := range []int64{0, 1, 31, 999998, 999999} {
		for _, value := range []int64{0, 1, 300, 999998, 999999} {
			wantCode(t, "a load", impl.EventFault(load(addr, value)), impl.OK)
			wantCode(t, "a store", impl.EventFault(store(addr, value)), impl.OK)
		}
	}
	for e, code := range faultyEvents() {
		if got := impl.EventFault(e); got != code {
			t.Errorf("EventFault(%+v) is %d, not %d", e, got, code)
		}
	}
}

func TestStepsFault(t *testing.T) {
	for _, list := range someSteps() {
		wantCode(t, "a row without a fault", impl.StepsFault(list), impl.OK)
	}
	for _, size := range []int{9, 10, 100, 100000} {
		wantCode(t, "too many", impl.StepsFault(manyOf(size, load(1, 2))), impl.ErrMany)
	}
	for e, code := range faultyEvents() {
		for size := 1; size <= 8; size++ {
			list := patternSteps(size, 7)
			list[size-1] = e
			wantCode(t, "the last one has a fault", impl.StepsFault(list), code)
			list = patternSteps(size, 7)
			list[0] = e
			wantCode(t, "the first one has a fault", impl.StepsFault(list), code)
		}
		wantCode(t, "too many, with a fault", impl.StepsFault(manyOf(9, e)), impl.ErrMany)
	}
	form, wide := impl.Event{Kind: 2}, load(1000000, 0)
	wantCode(t, "ErrRange ahead of ErrForm", impl.StepsFault([]impl.Event{wide, form}), impl.ErrRange)
	wantCode(t, "ErrForm ahead of ErrRange", impl.StepsFault([]impl.Event{load(0, 0), form, wide}), impl.ErrForm)
}

func TestTraceFault(t *testing.T) {
	good, form, wide := patternSteps(8, 1), []impl.Event{{Kind: -1}}, []impl.Event{store(0, -1)}
	long := manyOf(9, load(0, 0))
	cases := []struct {
		name  string
		cores [][]impl.Event
		want  int64
	}{
		{"no core", nil, impl.ErrMany},
		{"an empty list of cores", [][]impl.Event{}, impl.ErrMany},
		{"one core", [][]impl.Event{good}, impl.OK},
		{"one core without events", [][]impl.Event{nil}, impl.OK},
		{"a core without events ahead", [][]impl.Event{{}, good}, impl.OK},
		{"a core without events behind", [][]impl.Event{good, nil}, impl.OK},
		{"four cores", [][]impl.Event{good, good, good, good}, impl.OK},
		{"four cores without events", make([][]impl.Event, 4), impl.OK},
		{"five cores", [][]impl.Event{good, good, good, good, good}, impl.ErrMany},
		{"five cores without events", make([][]impl.Event, 5), impl.ErrMany},
		{"very many cores", make([][]impl.Event, 100000), impl.ErrMany},
		{"five cores, the first one with a fault", [][]impl.Event{form, nil, nil, nil, nil}, impl.ErrMany},
		{"five cores, the first one out of bounds", [][]impl.Event{wide, nil, nil, nil, nil}, impl.ErrMany},
		{"nine events", [][]impl.Event{good, long}, impl.ErrMany},
		{"no kind in the last core", [][]impl.Event{good, nil, good, form}, impl.ErrForm},
		{"out of bounds in the last core", [][]impl.Event{good, nil, good, wide}, impl.ErrRange},
		{"no kind ahead of nine events", [][]impl.Event{form, long}, impl.ErrForm},
		{"out of bounds ahead of nine events", [][]impl.Event{wide, long}, impl.ErrRange},
		{"out of bounds ahead of no kind", [][]impl.Event{wide, form}, impl.ErrRange},
		{"nine events ahead of no kind", [][]impl.Event{long, form}, impl.ErrMany},
		{"no kind ahead of out of bounds", [][]impl.Event{nil, form, wide}, impl.ErrForm},
	}
	for _, c := range cases {
		wantCode(t, c.name, impl.TraceFault(c.cores), c.want)
	}
	for _, list := range someSteps() {
		wantCode(t, "a trace without a fault", impl.TraceFault([][]impl.Event{list, good, list}), impl.OK)
	}
}

func TestPackStepsHasTheBytesOfTheDocument(t *testing.T) {
	cases := []struct {
		list []impl.Event
		want []byte
	}{
		{nil, nil},
		{[]impl.Event{store(3, 5)}, []byte{13, 5}},
		{[]impl.Event{store(3, 5), load(1, 300)}, []byte{13, 5, 6, 172, 2}},
		{[]impl.Event{load(0, 0)}, []byte{0, 0}},
		{[]impl.Event{store(0, 0)}, []byte{1, 0}},
		{[]impl.Event{load(31, 127), load(31, 128), store(32, 0)}, []byte{124, 127, 0, 128, 1, 5, 0}},
		{[]impl.Event{store(1, 1), store(0, 1), load(0, 1)}, []byte{5, 1, 3, 1, 0, 1}},
		{[]impl.Event{store(999999, 999999), load(0, 0)}, []byte{253, 145, 244, 1, 191, 132, 61, 250, 145, 244, 1, 0}},
		{manyOf(8, load(0, 0)), make([]byte, 16)},
	}
	for _, c := range cases {
		if got := mustPack(t, c.list); !bytes.Equal(got, c.want) {
			t.Errorf("PackSteps(%v) is %v, not %v", c.list, got, c.want)
		}
	}
	for _, list := range someSteps() {
		if got := mustPack(t, list); !bytes.Equal(got, packedByHand(list)) {
			t.Errorf("PackSteps(%v) is %v", list, got)
		}
	}
}

func TestPackStepsTellsTheFault(t *testing.T) {
	wantFault := func(list []impl.Event, code int64) {
		t.Helper()
		if got := impl.PackSteps(list); got.Code != code || len(got.Bytes) != 0 {
			t.Errorf("PackSteps of %d events is %+v, not code %d alone", len(list), got, code)
		}
	}
	wantFault(manyOf(9, load(0, 0)), impl.ErrMany)
	wantFault(manyOf(9, impl.Event{Kind: 2}), impl.ErrMany)
	wantFault(manyOf(100000, store(5, 5)), impl.ErrMany)
	for e, code := range faultyEvents() {
		wantFault([]impl.Event{e}, code)
		wantFault(append(patternSteps(7, 3), e), code)
		wantFault([]impl.Event{load(1, 1), e, load(2, 2)}, code)
	}
	wantFault([]impl.Event{store(0, 0), load(-1, 0), {Kind: 2}}, impl.ErrRange)
	wantFault([]impl.Event{store(0, 0), {Kind: 2}, load(-1, 0)}, impl.ErrForm)
}

func TestEventsAreReadBack(t *testing.T) {
	for _, list := range someSteps() {
		wantSteps(t, mustPack(t, list), list)
	}
	ends := []int64{0, 1, 63, 64, 499999, 999998, 999999}
	for _, first := range ends {
		for _, second := range ends {
			list := []impl.Event{load(first, second), store(second, first), load(first, 0)}
			wantSteps(t, mustPack(t, list), list)
		}
	}
	for seed := range int64(3000) {
		list := patternSteps(int(seed%9), seed)
		wantSteps(t, mustPack(t, list), list)
	}
}

func TestUnpackStepsOfNothing(t *testing.T) {
	wantSteps(t, nil, nil)
	wantSteps(t, []byte{}, nil)
	wantSteps(t, someBytes(50)[:0], nil)
}

// checkOneFormOfSteps: what is read is a row whose bytes data is, and what is
// refused is none.
func checkOneFormOfSteps(t *testing.T, data []byte) {
	t.Helper()
	list, ok := unpackedByHand(data)
	if !ok {
		wantNoSteps(t, data, impl.ErrText)
		return
	}
	wantSteps(t, data, list)
	if !bytes.Equal(mustPack(t, list), data) {
		t.Fatalf("%v is a second form of %v", data, list)
	}
}

func TestEachRowOfEventsHasOneForm(t *testing.T) {
	for first := range 256 {
		checkOneFormOfSteps(t, []byte{byte(first)})
		for second := range 256 {
			checkOneFormOfSteps(t, []byte{byte(first), byte(second)})
		}
	}
	edges := []byte{0, 1, 2, 3, 4, 60, 61, 62, 127, 128, 129, 132, 191, 192, 244, 255}
	for _, a := range edges {
		for _, b := range edges {
			for _, c := range edges {
				checkOneFormOfSteps(t, []byte{a, b, c})
				for _, d := range edges {
					checkOneFormOfSteps(t, []byte{a, b, c, d})
				}
			}
		}
	}
	for seed := range 3000 {
		checkOneFormOfSteps(t, someBytes(seed)[:seed%40])
	}
	// Each byte of a good row, turned to each other one.
	for _, list := range someSteps() {
		data := mustPack(t, list)
		for at, was := range data {
			for b := range 256 {
				data[at] = byte(b)
				checkOneFormOfSteps(t, data)
			}
			data[at] = was
		}
	}
}

func TestUnpackStepsRefusesBytesThatAreCutOff(t *testing.T) {
	for _, list := range someSteps() {
		data, whole := mustPack(t, list), map[int]int{}
		for count := range list {
			whole[len(mustPack(t, list[:count]))] = count
		}
		for size := range data {
			if count, ok := whole[size]; ok {
				wantSteps(t, data[:size], list[:count])
				continue
			}
			wantNoSteps(t, data[:size], impl.ErrText)
			wantNoSteps(t, data[:size:size], impl.ErrText)
		}
	}
	wantNoSteps(t, []byte{13}, impl.ErrText)
	wantNoSteps(t, []byte{0}, impl.ErrText)
	wantNoSteps(t, []byte{13, 133}, impl.ErrText)
}

func TestUnpackStepsRefusesWhatStandsBehind(t *testing.T) {
	for _, list := range someSteps() {
		data := mustPack(t, list)
		for b := range 256 {
			wantNoSteps(t, append(bytes.Clone(data), byte(b)), impl.ErrText)
		}
		if len(list) == 8 {
			wantNoSteps(t, append(bytes.Clone(data), 0, 0), impl.ErrText)
			wantNoSteps(t, append(bytes.Clone(data), data...), impl.ErrText)
		} else {
			wantSteps(t, append(bytes.Clone(data), 0, 0), append(slices.Clone(list), load(lastAddr(list), 0)))
		}
	}
}

func lastAddr(list []impl.Event) int64 {
	if len(list) == 0 {
		return 0
	}
	return list[len(list)-1].Addr
}

func TestUnpackStepsTakesEightEventsAndNotNine(t *testing.T) {
	wantSteps(t, make([]byte, 16), manyOf(8, load(0, 0)))
	wantNoSteps(t, make([]byte, 17), impl.ErrText)
	wantNoSteps(t, make([]byte, 18), impl.ErrText)
	for _, seed := range []int64{1, 2, 3} {
		nine := patternSteps(9, seed)
		wantSteps(t, packedByHand(nine[:8]), nine[:8])
		wantNoSteps(t, packedByHand(nine), impl.ErrText)
	}
}

// A longer form of any one number in a row is a second form of the row.
func TestUnpackStepsRefusesSecondForms(t *testing.T) {
	for _, list := range someSteps() {
		data := mustPack(t, list)
		for at, b := range data {
			if b >= 128 {
				continue
			}
			for more := range 3 {
				longer := append(bytes.Clone(data[:at]), b+128)
				longer = append(longer, bytes.Repeat([]byte{128}, more)...)
				longer = append(longer, 0)
				wantNoSteps(t, append(longer, data[at+1:]...), impl.ErrText)
			}
		}
	}
	wantNoSteps(t, []byte{141, 0, 5}, impl.ErrText)
	wantNoSteps(t, []byte{13, 133, 0}, impl.ErrText)
}

func TestUnpackStepsRefusesAddrsOutOfBounds(t *testing.T) {
	withDeltas := func(deltas ...int64) []byte {
		var out []byte
		for i, delta := range deltas {
			out = binary.AppendUvarint(out, packedHead(int64(i%2), delta))
			out = append(out, 5)
		}
		return out
	}
	wantSteps(t, withDeltas(999999, -999999, 999999), []impl.Event{load(999999, 5), store(0, 5), load(999999, 5)})
	wantSteps(t, withDeltas(1, 999998), []impl.Event{load(1, 5), store(999999, 5)})
	bad := [][]int64{
		{-1}, {-2}, {-999999}, {1000000}, {1000001}, {0, -1}, {5, -6}, {5, -6, 6}, {999999, 1}, {999999, 1, -1},
		{999999, -1000000}, {1, 999999}, {500000, 500000}, {0, 0, 0, 0, 0, 0, 0, -1}, {0, 0, 0, 0, 0, 0, 0, 1000000},
		{maxZigZag}, {-maxZigZag}, {maxZigZag, -maxZigZag}, {1, maxZigZag}, {1, -maxZigZag},
		{maxZigZag + 1}, {-maxZigZag - 1}, {maxZigZag + 1, -maxZigZag - 1}, {1 << 60}, {-1 << 60},
	}
	for _, deltas := range bad {
		wantNoSteps(t, withDeltas(deltas...), impl.ErrText)
	}
	wantNoSteps(t, append(binary.AppendUvarint(nil, math.MaxInt64), 0), impl.ErrText)
	wantNoSteps(t, append(binary.AppendUvarint(nil, math.MaxUint64), 0), impl.ErrText)
}

func TestUnpackStepsRefusesValuesOutOfBounds(t *testing.T) {
	wantSteps(t, binary.AppendUvarint([]byte{13}, 999999), []impl.Event{store(3, 999999)})
	for _, value := range []uint64{1000000, 1000001, 1 << 31, 1 << 32, 1 << 62, math.MaxInt64, math.MaxInt64 + 1, math.MaxUint64} {
		wantNoSteps(t, binary.AppendUvarint([]byte{13}, value), impl.ErrText)
		wantNoSteps(t, binary.AppendUvarint([]byte{0, 0, 13}, value), impl.ErrText)
	}
}

func TestUnpackStepsRefusesTooManyBytes(t *testing.T) {
	good := mustPack(t, patternSteps(8, 5))
	for _, size := range []int{4001, 4002, 5000, 100000} {
		wantNoSteps(t, make([]byte, size), impl.ErrMany)
		wantNoSteps(t, someBytes(size), impl.ErrMany)
		wantNoSteps(t, bytes.Repeat([]byte{128}, size), impl.ErrMany)
		wantNoSteps(t, append(bytes.Clone(good), someBytes(size-len(good))...), impl.ErrMany)
	}
	for _, size := range []int{3999, 4000} {
		wantNoSteps(t, make([]byte, size), impl.ErrText)
		wantNoSteps(t, someBytes(size), impl.ErrText)
		wantNoSteps(t, bytes.Repeat([]byte{128}, size), impl.ErrText)
	}
	// Only the bytes of the slice count, not those that its memory has room for.
	wantSteps(t, make([]byte, 16, 9000), manyOf(8, load(0, 0)))
}

// differentSteps are rows no two of which are the same; some have faults.
func differentSteps() [][]impl.Event {
	long := patternSteps(1000, 4)
	turned := slices.Clone(long)
	turned[999].Value++
	return [][]impl.Event{
		nil, {load(0, 0)}, {store(0, 0)}, {load(1, 0)}, {load(0, 1)}, {store(1, 1)}, {{Kind: 2}}, {{Kind: -1}}, {load(-1, 0)}, {load(0, 1000000)},
		{load(0, 0), load(0, 0)}, {load(0, 0), store(0, 0)}, {store(0, 0), load(0, 0)}, {load(0, 1), load(1, 0)}, {load(1, 0), load(0, 1)},
		manyOf(8, load(0, 0)), manyOf(9, load(0, 0)), long[:8], long[:999], long[1:], long, turned,
		{load(math.MinInt64, math.MaxInt64)}, {load(math.MaxInt64, math.MinInt64)},
	}
}

func TestSameSteps(t *testing.T) {
	for i, a := range differentSteps() {
		for j, b := range differentSteps() {
			if got := impl.SameSteps(a, slices.Clone(b)); got != (i == j) {
				t.Errorf("SameSteps of rows %d and %d is %v", i, j, got)
			}
		}
	}
	if !impl.SameSteps(nil, []impl.Event{}) || !impl.SameSteps([]impl.Event{}, nil) || !impl.SameSteps(nil, nil) {
		t.Error("nil and the empty row are not the same")
	}
	if long := patternSteps(9, 2); !impl.SameSteps(long[:4], patternSteps(4, 2)) {
		t.Error("events behind the end of a row are looked at")
	}
}

func TestSameTraces(t *testing.T) {
	a, b := []impl.Event{store(3, 5)}, []impl.Event{load(3, 5)}
	traces := [][][]impl.Event{nil, {nil}, {nil, nil}, {a}, {b}, {a, b}, {b, a}, {a, nil}, {nil, a}, {a, a}, {append(slices.Clone(a), b...)}, {a, a, a, b}, {a, a, a, a}, make([][]impl.Event, 5), make([][]impl.Event, 1000)}
	for _, list := range differentSteps()[1:] {
		if !slices.Equal(list, a) && !slices.Equal(list, b) {
			traces = append(traces, [][]impl.Event{list}, [][]impl.Event{a, list})
		}
	}
	for i, left := range traces {
		for j, right := range traces {
			if got := impl.SameTraces(left, cloneTrace(right)); got != (i == j) {
				t.Errorf("SameTraces of traces %d and %d is %v", i, j, got)
			}
		}
	}
	if !impl.SameTraces(nil, [][]impl.Event{}) || !impl.SameTraces([][]impl.Event{}, nil) {
		t.Error("nil and no cores are not the same")
	}
	if !impl.SameTraces([][]impl.Event{nil, {}}, [][]impl.Event{{}, nil}) {
		t.Error("nil and the empty row are not the same in a trace")
	}
}

func cloneTrace(cores [][]impl.Event) [][]impl.Event {
	out := make([][]impl.Event, len(cores))
	for i, list := range cores {
		out[i] = slices.Clone(list)
	}
	return out
}

// The slices passed have room behind them, in which nothing may be written either.
func TestNoEventsAreChanged(t *testing.T) {
	calls := map[string]func(list []impl.Event){
		"StepsFault":      func(list []impl.Event) { impl.StepsFault(list) },
		"TraceFault":      func(list []impl.Event) { impl.TraceFault([][]impl.Event{list, list}) },
		"PackSteps":       func(list []impl.Event) { impl.PackSteps(list) },
		"SameSteps":       func(list []impl.Event) { impl.SameSteps(list, slices.Clone(list)) },
		"SameSteps twin":  func(list []impl.Event) { impl.SameSteps(slices.Clone(list), list) },
		"SameTraces":      func(list []impl.Event) { impl.SameTraces([][]impl.Event{list}, [][]impl.Event{slices.Clone(list)}) },
		"SameTraces twin": func(list []impl.Event) { impl.SameTraces([][]impl.Event{slices.Clone(list)}, [][]impl.Event{list}) },
	}
	for name, call := range calls {
		for _, input := range append(someSteps(), differentSteps()...) {
			whole := append(slices.Clone(input), patternSteps(9, 1)...)
			before := slices.Clone(whole)
			call(whole[:len(input)])
			if !slices.Equal(whole, before) {
				t.Errorf("%s changes an argument of %d events", name, len(input))
			}
		}
	}
}

// The rows of a trace stand in a list that may not be changed either.
func TestNoTraceIsChanged(t *testing.T) {
	for _, list := range differentSteps() {
		whole := [][]impl.Event{list, patternSteps(8, 2), nil, list, {load(9, 9)}}
		before := cloneTrace(whole)
		for count := range whole {
			impl.TraceFault(whole[:count])
			impl.SameTraces(whole[:count], before[:count])
			impl.SameTraces(before[:count], whole[:count])
		}
		if !slices.EqualFunc(whole, before, slices.Equal) {
			t.Errorf("a trace with a row of %d events is changed", len(list))
		}
	}
}

func TestNoPackedBytesAreChanged(t *testing.T) {
	inputs := [][]byte{nil, {0}, {13, 5}, {7, 5}, {141, 0, 5}, make([]byte, 18), someBytes(300), someBytes(4000), someBytes(4001)}
	for _, list := range someSteps() {
		inputs = append(inputs, mustPack(t, list))
	}
	for _, input := range inputs {
		whole := append(bytes.Clone(input), someBytes(50)...)
		before := bytes.Clone(whole)
		impl.UnpackSteps(whole[:len(input)])
		if !bytes.Equal(whole, before) {
			t.Errorf("UnpackSteps changes an argument of %d bytes", len(input))
		}
	}
}

// checkNewBytes: the bytes that pack tells of a row share memory with nothing.
func checkNewBytes(t *testing.T, list []impl.Event, want []byte, pack func(list []impl.Event) []byte) {
	t.Helper()
	given := slices.Clone(list)
	first, second := pack(given), pack(given)
	for i := range given {
		given[i] = store(77, 77)
	}
	if !bytes.Equal(first, want) {
		t.Fatalf("the bytes of %v turn with the argument", list)
	}
	for i := range first {
		first[i] ^= 255
	}
	_ = append(first, 1, 2, 3)
	if !bytes.Equal(second, want) || !bytes.Equal(pack(list), want) {
		t.Fatalf("two answers about %v share memory", list)
	}
}

func TestPackedBytesAreNewMemory(t *testing.T) {
	for _, list := range someSteps() {
		checkNewBytes(t, list, packedByHand(list), func(list []impl.Event) []byte { return mustPack(t, list) })
	}
}

func TestUnpackedEventsAreNewMemory(t *testing.T) {
	for _, list := range someSteps() {
		data := packedByHand(list)
		first, second := impl.UnpackSteps(data).Events, impl.UnpackSteps(data).Events
		for i := range data {
			data[i] ^= 255
		}
		if !slices.Equal(first, list) {
			t.Fatalf("the events %v turn with the argument", list)
		}
		for i := range first {
			first[i] = impl.Event{Kind: 9, Addr: 9, Value: 9}
		}
		_ = append(first, load(1, 1))
		if !slices.Equal(second, list) {
			t.Fatalf("two answers of UnpackSteps share memory: %v", list)
		}
		wantSteps(t, packedByHand(list), list)
	}
}

// eventAnswers asks each function of the chapter about one row and some bytes.
func eventAnswers(list []impl.Event, data []byte) []any {
	packed, read := impl.PackSteps(list), impl.UnpackSteps(data)
	trace := [][]impl.Event{list, read.Events}
	answers := []any{impl.StepsFault(list), impl.TraceFault(trace), packed.Code, hex.EncodeToString(packed.Bytes), read.Code, len(read.Events),
		impl.SameSteps(list, read.Events), impl.SameTraces(trace, [][]impl.Event{list, list})}
	for _, e := range append(slices.Clone(list[:min(len(list), 20)]), read.Events...) {
		answers = append(answers, e, impl.EventFault(e))
	}
	return answers
}

// An address that is kept from a call to the next one, or from a call that
// was refused, would turn the answers that follow.
func TestEventAnswersHangOnTheArgumentsAlone(t *testing.T) {
	lists := append(someSteps(), differentSteps()...)
	inputs := [][]byte{{13, 5}, {253, 145, 244, 1}, {253, 145, 244, 1, 5, 7}, {7, 5}, make([]byte, 18), make([]byte, 4001)}
	var before [][]any
	for i, list := range lists {
		inputs = append(inputs, packedByHand(patternSteps(i%9, int64(i))))
		before = append(before, eventAnswers(list, inputs[i]))
	}
	for i := len(lists) - 1; i >= 0; i-- {
		after := eventAnswers(lists[i], inputs[i])
		if !slices.Equal(after, before[i]) {
			t.Errorf("the answers about row %d are %v, and were %v", i, after, before[i])
		}
	}
}
