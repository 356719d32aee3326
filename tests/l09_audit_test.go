package tests

import (
	"bytes"
	"encoding/binary"
	"fmt"
	"math"
	"slices"
	"testing"

	"loop.example/g00800/impl"
)

// inTurns is a log in which so many cores do the events turn about.
func inTurns(cores int64, events ...impl.Event) []impl.Step {
	var log []impl.Step
	for i, e := range events {
		log = append(log, impl.Step{Core: int64(i) % cores, Event: e})
	}
	return log
}

// flatByHand looks back from each load for the store that was the last one.
func flatByHand(log []impl.Step, cores int64) bool {
	if logFaultByHand(log, cores) != impl.OK {
		return false
	}
	for i, s := range log {
		last := int64(0)
		for at := i - 1; at >= 0; at-- {
			if ahead := log[at].Event; ahead.Kind == 1 && ahead.Addr == s.Event.Addr {
				last = ahead.Value
				break
			}
		}
		if s.Event.Kind == 0 && s.Event.Value != last {
			return false
		}
	}
	return true
}

// turnedByHand is of a place and a bit that are there: what the byte has of
// this power of 2 is taken away, or added.
func turnedByHand(data []byte, at int64, bit int64) []byte {
	turned := bytes.Clone(data)
	power := []int{1, 2, 4, 8, 16, 32, 64, 128}[bit]
	if int(turned[at])/power%2 == 1 {
		turned[at] = byte(int(turned[at]) - power)
	} else {
		turned[at] = byte(int(turned[at]) + power)
	}
	return turned
}

// spotsByHand goes by the words of the document: where the bytes of the events
// of each frame stand, and its sum, and the sum of the end.
func spotsByHand(cores [][]impl.Event, block int) []int64 {
	var spots []int64
	ahead := 2
	for _, f := range framesByHand(cores, block) {
		steps := len(packedByHand(f.Events))
		first := ahead + 2 + len(binary.AppendUvarint(nil, uint64(steps)))
		for at := first; at < first+steps; at++ {
			spots = append(spots, int64(at))
		}
		for n := range 4 {
			spots = append(spots, int64(first+steps+n))
		}
		ahead += len(framedByHand(f))
	}
	for n := range 4 {
		spots = append(spots, int64(ahead+3+n))
	}
	return spots
}

func wantFlat(t *testing.T, name string, log []impl.Step, cores int64, want bool) {
	t.Helper()
	if byHand := flatByHand(log, cores); byHand != want {
		t.Fatalf("%s: by hand %v of %d cores is %v", name, log, cores, byHand)
	}
	if got := impl.IsFlat(log, cores); got != want {
		t.Errorf("%s: IsFlat(%v, %d) is %v", name, log, cores, got)
	}
}

// wantFlatOfAll asks of these events in turns of each number of cores that may
// do so many.
func wantFlatOfAll(t *testing.T, name string, want bool, events ...impl.Event) {
	t.Helper()
	for cores := int64(1); cores <= 4; cores++ {
		for turns := int64(1); turns <= cores; turns++ {
			if int64(len(events)) <= 8*turns {
				wantFlat(t, name, inTurns(turns, events...), cores, want)
			}
		}
	}
}

func TestALogWithoutStepsIsFlat(t *testing.T) {
	for cores := int64(1); cores <= 4; cores++ {
		wantFlat(t, "nil", nil, cores, true)
		wantFlat(t, "an empty list", []impl.Step{}, cores, true)
		wantFlat(t, "room behind", inTurns(1, load(7, 1))[:0], cores, true)
	}
	for _, cores := range coresOutOfBounds() {
		wantFlat(t, "nil, and no such number of cores", nil, cores, false)
		wantFlat(t, "an empty list, and no such number of cores", []impl.Step{}, cores, false)
	}
}

func TestLoadsAheadOfTheFirstStoreHave0(t *testing.T) {
	for _, addr := range []int64{0, 1, 7, 255, 256, 65536, 999998, 999999} {
		wantFlatOfAll(t, "0 alone", true, load(addr, 0))
		wantFlatOfAll(t, "0 twice", true, load(addr, 0), load(addr, 0))
		wantFlatOfAll(t, "0 ahead of the first store", true, load(addr, 0), store(addr, 5), load(addr, 5))
		wantFlatOfAll(t, "0 ahead of a store of 0", true, load(addr, 0), store(addr, 0), load(addr, 0))
		for _, value := range []int64{1, 2, 255, 256, 65536, 999999} {
			wantFlatOfAll(t, "another Value alone", false, load(addr, value))
			wantFlatOfAll(t, "another Value twice", false, load(addr, value), load(addr, value))
			wantFlatOfAll(t, "another Value last", false, load(addr, 0), load(addr, value))
			wantFlatOfAll(t, "another Value first", false, load(addr, value), load(addr, 0))
			wantFlatOfAll(t, "the Value of a store behind it", false, load(addr, value), store(addr, value))
			wantFlatOfAll(t, "another one, then the store of it", false, load(addr, value), store(addr, value), load(addr, value))
			wantFlatOfAll(t, "another one, then a store of 0", false, load(addr, value), store(addr, 0), load(addr, 0))
		}
	}
}

func TestLoadsHaveTheValueThatWasStoredLast(t *testing.T) {
	for _, c := range []struct {
		name   string
		want   bool
		events []impl.Event
	}{
		{"a store alone", true, eventsOf(store(7, 1))},
		{"what was stored", true, eventsOf(store(7, 1), load(7, 1))},
		{"what was stored, often", true, eventsOf(store(7, 1), load(7, 1), load(7, 1), load(7, 1))},
		{"0, where something was stored", false, eventsOf(store(7, 1), load(7, 0))},
		{"what was never stored", false, eventsOf(store(7, 1), load(7, 2))},
		{"one more", false, eventsOf(store(7, 999998), load(7, 999999))},
		{"the greatest", true, eventsOf(store(999999, 999999), load(999999, 999999))},
		{"the last one of two", true, eventsOf(store(7, 1), store(7, 2), load(7, 2))},
		{"the last but one", false, eventsOf(store(7, 1), store(7, 2), load(7, 1))},
		{"the last but one, that was loaded before", false, eventsOf(store(7, 1), load(7, 1), store(7, 2), load(7, 1))},
		{"the next one", false, eventsOf(store(7, 1), load(7, 2), store(7, 2))},
		{"each one between", true, eventsOf(load(7, 0), store(7, 1), load(7, 1), store(7, 2), load(7, 2), store(7, 1), load(7, 1))},
		{"the first one of three", false, eventsOf(store(7, 1), store(7, 2), store(7, 3), load(7, 1))},
		{"the greatest one of three", false, eventsOf(store(7, 1), store(7, 3), store(7, 2), load(7, 3))},
		{"the lowest one of three", false, eventsOf(store(7, 3), store(7, 1), store(7, 2), load(7, 1))},
		{"a store of 0", true, eventsOf(store(7, 0), load(7, 0))},
		{"a store of 0 behind another", true, eventsOf(store(7, 5), store(7, 0), load(7, 0))},
		{"the one ahead of a store of 0", false, eventsOf(store(7, 5), store(7, 0), load(7, 5))},
		{"the same one again", true, eventsOf(store(7, 1), store(7, 2), store(7, 1), load(7, 1))},
		{"the one between", false, eventsOf(store(7, 1), store(7, 2), store(7, 1), load(7, 2))},
		{"a load stores nothing", false, eventsOf(store(7, 1), load(7, 2), load(7, 2))},
		{"the first load alone is wrong", false, eventsOf(store(7, 1), load(7, 2), load(7, 1), load(7, 1))},
		{"the middle load alone is wrong", false, eventsOf(store(7, 1), load(7, 1), load(7, 2), load(7, 1))},
		{"the last load alone is wrong", false, eventsOf(store(7, 1), load(7, 1), load(7, 1), load(7, 2))},
		{"stores of other Values behind each other", true, eventsOf(store(7, 1), store(7, 5), store(7, 3), store(7, 9))},
	} {
		wantFlatOfAll(t, c.name, c.want, c.events...)
	}
}

func TestEachAddrHasItsOwnValue(t *testing.T) {
	for _, pair := range [][2]int64{{7, 8}, {8, 7}, {0, 1}, {0, 999999}, {999999, 0}, {7, 11}, {3, 259}, {1, 65537}, {0, 8}, {31, 63}, {1, 4}, {5, 15}} {
		a, b := pair[0], pair[1]
		wantFlatOfAll(t, "0 of another Addr", true, store(a, 1), load(b, 0))
		wantFlatOfAll(t, "the Value of another Addr, where nothing was stored", false, store(a, 1), load(b, 1))
		wantFlatOfAll(t, "each its own", true, store(a, 1), store(b, 2), load(a, 1), load(b, 2))
		wantFlatOfAll(t, "the first one has that of the other", false, store(a, 1), store(b, 2), load(a, 2), load(b, 2))
		wantFlatOfAll(t, "the other has that of the first one", false, store(a, 1), store(b, 2), load(a, 1), load(b, 1))
		wantFlatOfAll(t, "one for the other", false, store(a, 1), store(b, 2), load(a, 2), load(b, 1))
		wantFlatOfAll(t, "what was stored last anywhere", false, store(a, 1), store(b, 2), load(a, 2))
		wantFlatOfAll(t, "the same Value at both", true, store(a, 1), store(b, 1), load(a, 1), load(b, 1))
		wantFlatOfAll(t, "a store of 0 at the other", true, store(a, 1), store(b, 0), load(a, 1), load(b, 0))
		wantFlatOfAll(t, "the Addr is no Value", false, load(a, b+1))
		wantFlatOfAll(t, "a load of the other between", true, store(a, 1), load(b, 0), load(a, 1), store(b, 3), load(a, 1), load(b, 3))
	}
}

func TestStoresOfAnyCoreCount(t *testing.T) {
	step := func(core int64, e impl.Event) impl.Step { return impl.Step{Core: core, Event: e} }
	for cores := int64(2); cores <= 4; cores++ {
		for a := range cores {
			for b := range cores {
				if a == b {
					continue
				}
				wantFlat(t, "of another core", []impl.Step{step(a, store(7, 1)), step(b, load(7, 1))}, cores, true)
				wantFlat(t, "0, since another core stored", []impl.Step{step(a, store(7, 1)), step(b, load(7, 0))}, cores, false)
				both := []impl.Step{step(a, store(7, 1)), step(b, store(7, 2))}
				for c := range cores {
					wantFlat(t, "the last one of both", append(slices.Clone(both), step(c, load(7, 2))), cores, true)
					wantFlat(t, "the first one of both", append(slices.Clone(both), step(c, load(7, 1))), cores, false)
					wantFlat(t, "none of both", append(slices.Clone(both), step(c, load(7, 0))), cores, false)
				}
				wantFlat(t, "each one its own", append(slices.Clone(both), step(a, load(7, 1)), step(b, load(7, 2))), cores, false)
				wantFlat(t, "both the last one", append(slices.Clone(both), step(a, load(7, 2)), step(b, load(7, 2))), cores, true)
			}
		}
	}
	four := []impl.Step{step(3, store(7, 4)), step(1, store(7, 2)), step(0, store(7, 1)), step(2, store(7, 3))}
	for value := range int64(6) {
		for core := range int64(4) {
			wantFlat(t, "of four cores", append(slices.Clone(four), step(core, load(7, value))), 4, value == 3)
		}
	}
}

// All but the fault itself is flat in these logs.
func TestALogWithAFaultIsNotFlat(t *testing.T) {
	none := load(7, 0)
	for size := range 41 {
		turns := inTurns(4, manyOf(size, none)...)
		wantFlat(t, "steps of four cores", turns, 4, size <= 32)
		wantFlat(t, "steps of one core", inTurns(1, manyOf(size, none)...), 1, size <= 8)
		wantFlat(t, "steps of the last core of four", append(inTurns(4, none, none, none), slices.Repeat([]impl.Step{{Core: 3, Event: none}}, size)...), 4, size <= 8)
		for _, cores := range coresOutOfBounds() {
			wantFlat(t, "cores out of bounds", turns, cores, false)
		}
	}
	wantFlat(t, "very many steps", make([]impl.Step, 100000), 1, false)
	for cores := int64(1); cores <= 4; cores++ {
		log := inTurns(cores, manyOf(8, none)...)
		for fewer := int64(1); fewer <= 4; fewer++ {
			wantFlat(t, "another number of cores", log, fewer, cores <= fewer)
		}
		for at := range log {
			for _, core := range []int64{-1, cores, 4, 256, 1 << 32, math.MinInt64, math.MaxInt64} {
				bad := slices.Clone(log)
				bad[at].Core = core
				wantFlat(t, "no such core", bad, cores, false)
			}
			for e := range faultyEvents() {
				bad := slices.Clone(log)
				bad[at].Event = e
				wantFlat(t, "an event with a fault", bad, cores, false)
			}
		}
	}
	for e := range faultyEvents() {
		wantFlat(t, "an event with a fault alone", inTurns(1, e), 1, false)
	}
	for _, n := range []int64{-1, 1000000, 1 << 32, math.MinInt64, math.MaxInt64} {
		wantFlat(t, "0 at an Addr out of bounds", inTurns(1, load(n, 0)), 1, false)
		wantFlat(t, "what was stored at an Addr out of bounds", inTurns(1, store(n, 1), load(n, 1)), 1, false)
		wantFlat(t, "what was stored out of bounds", inTurns(1, store(1, n), load(1, n)), 1, false)
	}
	for _, c := range badLogs() {
		wantFlat(t, c.name, c.log, c.cores, false)
	}
}

// Steps behind the end of a log do not count, nor do those ahead of it.
func TestOnlyTheStepsOfTheLogCount(t *testing.T) {
	log := inTurns(2, store(7, 1), load(7, 1), store(7, 2), load(7, 1), load(7, 2))
	wantFlat(t, "the wrong load behind the end", log[:3], 2, true)
	wantFlat(t, "the wrong load in it", log[:4], 2, false)
	wantFlat(t, "the store ahead of it", log[1:], 2, false)
	wantFlat(t, "the store in it", log[2:3], 2, true)
	wantFlat(t, "the load alone", log[4:], 2, false)
}

func TestAllShortLogs(t *testing.T) {
	choice := eventsOf(load(7, 0), load(7, 1), load(7, 2), store(7, 0), store(7, 1), store(7, 2), load(8, 0), load(8, 1), store(8, 1))
	rows, flat := [][]impl.Event{nil}, 0
	for size := range 5 {
		var longer [][]impl.Event
		for i, row := range rows {
			log := inTurns(int64(i%3+1), row...)
			want := flatByHand(log, 3)
			wantFlat(t, fmt.Sprint("all of ", size), log, 3, want)
			if want {
				flat++
			}
			for _, e := range choice {
				longer = append(longer, append(slices.Clone(row), e))
			}
		}
		rows = longer
	}
	if flat < 500 {
		t.Errorf("only %d of all logs are flat", flat)
	}
}

// A log is flat just if playing it on one memory tells the same loads, and just
// if the row in which its cores stand fits its own write order.
func TestAnyLogsAreFlatJustIfOneMemoryToldThem(t *testing.T) {
	flat := 0
	for seed := range int64(6000) {
		cores := int64(seed%4) + 1
		trace := anyTrace(int(cores), []int64{2, 4, 8}[seed%3], seed%5+1, 2+seed%2, seed)
		picks := anyPicks(int(seed%50), seed)
		merged, played := mergedByHand(trace, picks), playedByHand(trace, picks)
		wantFlat(t, "as one memory told it", played, cores, true)
		wantFlat(t, "any log", merged, cores, slices.Equal(merged, played))
		if slices.Equal(merged, played) {
			flat++
		}
		split, orders := impl.SplitLog(merged, cores).Cores, impl.OrdersOf(merged, cores).Orders
		if fits := impl.IsWitness(split, orders, coresByHand(merged)); fits != impl.IsFlat(merged, cores) {
			t.Fatalf("the log %v fits its own write order: %v", merged, fits)
		}
	}
	if flat < 500 || flat > 5500 {
		t.Errorf("%d of the logs are flat", flat)
	}
}

// checkOtherLoads: with another Value in one of its loads a flat log is so no
// more.
func checkOtherLoads(t *testing.T, log []impl.Step, cores int64) {
	t.Helper()
	for at, s := range log {
		if s.Event.Kind != impl.KindLoad {
			continue
		}
		for _, more := range []int64{1, 2, 4, 256, 65536, 500000, 999999} {
			other := slices.Clone(log)
			other[at].Event.Value = (s.Event.Value + more) % 1000000
			if impl.IsFlat(other, cores) {
				t.Fatalf("%v is flat, with another Value at place %d", other, at)
			}
		}
	}
}

func TestWhatAMachineDidIsFlat(t *testing.T) {
	for seed := range int64(3000) {
		count := seed%4 + 1
		programs := anyPrograms(int(count), []int64{1, 2, 5, 9, 1000}[seed%5], seed)
		log := impl.Simulate(programs, seed/4%4+1, anyPicks(int(seed*7%101), seed)).Log
		wantFlat(t, "what a machine did", log, count, true)
		if seed%10 == 0 {
			checkOtherLoads(t, log, count)
		}
	}
	full := clonePrograms(fullPrograms())
	for lines := int64(1); lines <= 4; lines++ {
		for seed := range int64(50) {
			log := impl.Simulate(full, lines, anyPicks(100, seed)).Log
			if len(log) != 32 {
				t.Fatalf("the log of full programs has %d steps", len(log))
			}
			wantFlat(t, "what a machine did with full programs", log, 4, true)
			checkOtherLoads(t, log, 4)
		}
	}
	wantFlat(t, "what a machine did without ops", impl.Simulate(make([][]impl.Op, 3), 2, nil).Log, 3, true)
}

// fullPrograms are of four cores of eight ops, half of them loads, with places
// of caches that are often those of another Addr.
func fullPrograms() [][]impl.Op {
	var programs [][]impl.Op
	for core := range int64(4) {
		var ops []impl.Op
		for n := range int64(4) {
			ops = append(ops, stores((core*3+n*5)%7, core*10+n), loads((core+n*3)%7))
		}
		programs = append(programs, ops)
	}
	return programs
}

func wantTurned(t *testing.T, data []byte, at int64, bit int64) {
	t.Helper()
	want := turnedByHand(data, at, bit)
	got := impl.TurnBit(data, at, bit)
	if got.Code != impl.OK || !bytes.Equal(got.Bytes, want) {
		t.Fatalf("TurnBit of %d bytes (%v ..) at %d, %d is %d, %v ..", len(data), data[:min(len(data), 9)], at, bit, got.Code, got.Bytes[:min(len(got.Bytes), 9)])
	}
	back := impl.TurnBit(got.Bytes, at, bit)
	if back.Code != impl.OK || !bytes.Equal(back.Bytes, data) {
		t.Fatalf("the bit %d of %d bytes, turned twice at %d, is not mended", bit, len(data), at)
	}
}

func wantNotTurned(t *testing.T, name string, data []byte, at int64, bit int64, code int64) {
	t.Helper()
	if got := impl.TurnBit(data, at, bit); got.Code != code || len(got.Bytes) != 0 {
		t.Errorf("%s: TurnBit of %d bytes at %d, %d is %d with %d bytes, not code %d alone", name, len(data), at, bit, got.Code, len(got.Bytes), code)
	}
}

func TestTurnBitOfTheDocument(t *testing.T) {
	for _, c := range []struct {
		data []byte
		at   int64
		bit  int64
		want []byte
	}{
		{[]byte{0}, 0, 0, []byte{1}},
		{[]byte{1}, 0, 0, []byte{0}},
		{[]byte{0}, 0, 7, []byte{128}},
		{[]byte{255}, 0, 7, []byte{127}},
		{[]byte{255}, 0, 0, []byte{254}},
		{[]byte{1, 2}, 1, 3, []byte{1, 10}},
		{[]byte{1, 2}, 0, 1, []byte{3, 2}},
		{[]byte{9, 9, 9}, 1, 3, []byte{9, 1, 9}},
		{[]byte{9, 9, 9}, 2, 4, []byte{9, 9, 25}},
	} {
		got := impl.TurnBit(c.data, c.at, c.bit)
		if got.Code != impl.OK || !bytes.Equal(got.Bytes, c.want) {
			t.Errorf("TurnBit(%v, %d, %d) is %+v, not %v", c.data, c.at, c.bit, got, c.want)
		}
	}
	for b := range 256 {
		for bit := range int64(8) {
			wantTurned(t, []byte{byte(b)}, 0, bit)
			wantTurned(t, []byte{7, byte(b), 9}, 1, bit)
		}
	}
}

func TestOnlyThisBitIsTurned(t *testing.T) {
	for _, size := range []int{1, 2, 3, 8, 9, 64, 255, 256, 257, 1000} {
		data := someBytes(size)
		for at := range int64(size) {
			for bit := range int64(8) {
				wantTurned(t, data, at, bit)
			}
		}
	}
}

func TestDataThatIsTurnedHas4000BytesAtMost(t *testing.T) {
	for _, size := range []int{3999, 4000} {
		data := someBytes(size)
		for _, at := range []int64{0, 1, 255, 256, 2000, int64(size) - 2, int64(size) - 1} {
			for bit := range int64(8) {
				wantTurned(t, data, at, bit)
			}
		}
		wantNotTurned(t, "the number of bytes", data, int64(size), 0, impl.ErrRange)
	}
	// What is too long is told ahead of a place or a bit that is none.
	for _, size := range []int{4001, 4002, 4096, 8000, 1000000} {
		data := make([]byte, size)
		for _, at := range append(beyond(), 0, 1, 3999, 4000, int64(size)-1, int64(size), -1) {
			for _, bit := range []int64{0, 3, 7, -1, 8, math.MinInt64, math.MaxInt64} {
				wantNotTurned(t, "too long", data, at, bit, impl.ErrMany)
			}
		}
	}
	// Only the bytes of the data count, not those that its memory has room for.
	wantTurned(t, make([]byte, 3, 10000), 2, 5)
}

// outOfByte are numbers that are no bit of a byte; some of them would be one,
// if only their lowest ones counted.
func outOfByte() []int64 {
	return []int64{-1, 8, -2, -7, -8, 9, 15, 16, 31, 32, 63, 64, 65, 127, 128, 255, 256, 257, 1 << 32, 1<<32 + 1, 1 << 62, -1 << 32, math.MinInt64, math.MinInt64 + 1, math.MaxInt64, math.MaxInt64 - 1}
}

func TestAPlaceIsOneOfTheData(t *testing.T) {
	for size := int64(1); size <= 300; size += 1 + size/4 {
		data := someBytes(int(size))
		for bit := range int64(8) {
			wantTurned(t, data, 0, bit)
			wantTurned(t, data, size-1, bit)
			for _, at := range []int64{-1, size, -2, size + 1, -size, -size - 1, size + 4000, size + 256, size + 1<<32, 1 << 32, -1 << 32, math.MinInt64, math.MinInt64 + 1, math.MaxInt64, math.MaxInt64 - 1} {
				wantNotTurned(t, "no place", data, at, bit, impl.ErrRange)
				// Bytes that stand only in the memory behind the data have no place in it.
				wantNotTurned(t, "no place, with room", slices.Grow(data, 5000), at, bit, impl.ErrRange)
			}
		}
	}
}

func TestABitIsOneOfAByte(t *testing.T) {
	for _, size := range []int64{1, 2, 9, 100, 4000} {
		data := someBytes(int(size))
		for _, at := range []int64{0, size / 2, size - 1} {
			wantTurned(t, data, at, 0)
			wantTurned(t, data, at, 7)
			for _, bit := range outOfByte() {
				wantNotTurned(t, "no bit", data, at, bit, impl.ErrRange)
				wantNotTurned(t, "no bit at no place", data, at-size, bit, impl.ErrRange)
				wantNotTurned(t, "no bit behind the data", data, at+size, bit, impl.ErrRange)
			}
		}
	}
}

// Data without bytes is not too long, and has no place.
func TestDataWithoutBytesHasNoPlace(t *testing.T) {
	for _, data := range [][]byte{nil, {}, someBytes(9)[:0], make([]byte, 0, 5000)} {
		for _, at := range append(beyond(), 0, -1, 1, 4000, 4001) {
			for _, bit := range append(outOfByte(), 0, 3, 7) {
				wantNotTurned(t, "no bytes", data, at, bit, impl.ErrRange)
			}
		}
	}
}

// A bit that is turned in what is summed turns the sum.
func TestABitThatIsTurnedByTurnBitTurnsTheSum(t *testing.T) {
	for _, size := range []int{1, 2, 9, 60, 300, 4000} {
		data := someBytes(size)
		sum, step := impl.CrcOf(data), max(1, size/300)
		for at := 0; at < size; at += step {
			for bit := range int64(8) {
				turned := impl.TurnBit(data, int64(at), bit)
				if got := impl.CrcOf(turned.Bytes); turned.Code != impl.OK || got.Code != impl.OK || got == sum {
					t.Fatalf("the sum of %d bytes is %+v, with the bit %d turned at %d, too", size, got, bit, at)
				}
			}
		}
	}
}

func wantSpots(t *testing.T, name string, cores [][]impl.Event, block int64, want []int64) {
	t.Helper()
	if got := impl.SpotsOf(cores, block); got.Code != impl.OK || !slices.Equal(got.List, want) {
		t.Errorf("%s: SpotsOf(%v, %d) is %+v, not %v", name, cores, block, got, want)
	}
}

func TestSpotsOfTheDocument(t *testing.T) {
	row := eventsOf(store(3, 5), load(1, 300), load(1, 0))
	for _, c := range []struct {
		name  string
		cores [][]impl.Event
		block int64
		want  []int64
	}{
		// 67, 1; 69, 0, 0; the sum.
		{"no events", traceOf(nil), 1, []int64{5, 6, 7, 8}},
		{"no events of four cores", make([][]impl.Event, 4), 8, []int64{5, 6, 7, 8}},
		// 67, 1; 66, 0, 2; 13, 5; a sum; 69, 1, 1; the sum.
		{"one event", traceOf(eventsOf(store(3, 5))), 8, []int64{5, 6, 7, 8, 9, 10, 14, 15, 16, 17}},
		{"one event, behind a core without some", traceOf(nil, eventsOf(store(3, 5))), 1, []int64{5, 6, 7, 8, 9, 10, 14, 15, 16, 17}},
		// 67, 2; 66, 1, 5; 13, 5, 6, 172, 2; a sum; 66, 1, 2; 4, 0; a sum; 69, 2, 3; the sum.
		{"two frames", traceOf(nil, row), 2, []int64{5, 6, 7, 8, 9, 10, 11, 12, 13, 17, 18, 19, 20, 21, 22, 26, 27, 28, 29}},
		// 67, 2; 66, 0, 7; 13, 5, 6, 172, 2, 0, 0; a sum; 69, 1, 3; the sum.
		{"one frame", traceOf(row, nil), 3, []int64{5, 6, 7, 8, 9, 10, 11, 12, 13, 14, 15, 19, 20, 21, 22}},
		// 67, 2; 66, 0, 2; 1, 0; a sum; 66, 1, 2; 0, 0; a sum; 69, 2, 2; the sum.
		{"a frame of each core", traceOf(eventsOf(store(0, 0)), eventsOf(load(0, 0))), 8, []int64{5, 6, 7, 8, 9, 10, 14, 15, 16, 17, 18, 19, 23, 24, 25, 26}},
	} {
		wantSpots(t, c.name, c.cores, c.block, c.want)
	}
}

// checkSpots: they rise, each one is a place of the file, those of the marks,
// cores, lengths and counts are none of them, and no other one is missing.
func checkSpots(t *testing.T, cores [][]impl.Event, block int64) {
	t.Helper()
	want := spotsByHand(cores, int(block))
	wantSpots(t, "any trace", cores, block, want)
	spots, file := impl.SpotsOf(cores, block).List, fileByHand(cores, int(block))
	for i, at := range spots {
		if at < 0 || at >= int64(len(file)) || i > 0 && at <= spots[i-1] {
			t.Fatalf("the places %v in %d bytes do not rise", spots, len(file))
		}
	}
	// With what stands at the spots gone, the heads and the end are left: all
	// lengths have one byte here.
	var others, marks []byte
	for at, b := range file {
		if !slices.Contains(spots, int64(at)) {
			others = append(others, b)
		}
	}
	marks = append(marks, 67, byte(len(cores)))
	frames := framesByHand(cores, int(block))
	for _, f := range frames {
		marks = append(marks, 66, byte(f.Core), byte(len(packedByHand(f.Events))))
	}
	marks = append(marks, 69, byte(len(frames)), byte(eventCount(cores)))
	if !bytes.Equal(others, marks) {
		t.Fatalf("what stands beside the places %v of %v is %v, not %v", spots, cores, others, marks)
	}
}

func TestSpotsOfAnyTraces(t *testing.T) {
	traces := someTraces()
	for seed := range int64(300) {
		traces = append(traces, patternTrace(1+int(seed%4), seed))
	}
	for _, cores := range traces {
		for block := int64(1); block <= 8; block++ {
			checkSpots(t, cores, block)
		}
	}
}

// Bytes of events that are those of a mark end no frame.
func TestSpotsOfEventsThatLookLikeMarks(t *testing.T) {
	for _, value := range []int64{66, 67, 69, 0, 2, 127} {
		// Twice the ZigZag of the Addr, and the Kind.
		for _, e := range []impl.Event{load(33, value), store(16, value), load(0, value), store(17, value)} {
			for size := 1; size <= 8; size++ {
				cores := traceOf(manyOf(size, e), nil, []impl.Event{e}, manyOf(size, e))
				for block := int64(1); block <= 8; block++ {
					checkSpots(t, cores, block)
				}
			}
		}
	}
}

// wantNoAudit asks all that EncodeTrace has a code of.
func wantNoAudit(t *testing.T, name string, cores [][]impl.Event, block int64, code int64) {
	t.Helper()
	if got := impl.SpotsOf(cores, block); got.Code != code || len(got.List) != 0 {
		t.Errorf("%s: SpotsOf in blocks of %d is %+v, not code %d alone", name, block, got, code)
	}
	for _, at := range []int64{-1, 0, 5, 6, 8, 17} {
		for _, bit := range []int64{-1, 0, 7, 8} {
			if impl.IsCaught(cores, block, at, bit) {
				t.Errorf("%s: IsCaught in blocks of %d at %d, %d, where there is no file", name, block, at, bit)
			}
		}
	}
	if impl.IsWhole(cores, block) {
		t.Errorf("%s: IsWhole in blocks of %d, where there is no file", name, block)
	}
}

func TestTheCodesOfTheFileAreTold(t *testing.T) {
	for _, c := range faultyTraces() {
		// The fault is told ahead of a block that leaves its bounds.
		for _, block := range append(badBlocks(), 1, 2, 7, 8) {
			wantNoAudit(t, c.name, c.cores, block, c.want)
		}
	}
	for e, code := range faultyEvents() {
		wantNoAudit(t, "an event with a fault", traceOf(nil, eventsOf(load(1, 1), e)), 8, code)
		wantNoAudit(t, "an event with a fault ahead of the block", traceOf(eventsOf(e)), 0, code)
	}
	for _, cores := range someTraces() {
		for _, block := range badBlocks() {
			wantNoAudit(t, "a trace without a fault", cores, block, impl.ErrRange)
		}
	}
}

// checkCaught asks at each place of the file, and at the ones beside it, with
// each bit; and what is read of the file with this bit turned.
func checkCaught(t *testing.T, cores [][]impl.Event, block int64) {
	t.Helper()
	file, spots := fileByHand(cores, int(block)), spotsByHand(cores, int(block))
	for at := int64(-2); at < int64(len(file))+2; at++ {
		_, isSpot := slices.BinarySearch(spots, at)
		for bit := range int64(8) {
			if got := impl.IsCaught(cores, block, at, bit); got != isSpot {
				t.Fatalf("IsCaught(%v, %d, %d, %d) is %v", cores, block, at, bit, got)
			}
			if at < 0 || at >= int64(len(file)) {
				continue
			}
			got := impl.DecodeTrace(impl.TurnBit(file, at, bit).Bytes)
			if got.Code == impl.OK || isSpot && got.Code != impl.ErrSum || len(got.Cores) != 0 {
				t.Fatalf("the bit %d at %d of the file of %v in blocks of %d is turned, and read as %+v", bit, at, cores, block, got)
			}
		}
	}
}

func TestEachBitThatIsTurnedIsFoundOut(t *testing.T) {
	for i, cores := range someTraces() {
		// Full traces have long files: one block each, for the time it takes.
		blocks := []int64{int64(i%8) + 1}
		if eventCount(cores) <= 5 {
			blocks = []int64{1, 2, 3, 4, 5, 6, 7, 8}
		}
		for _, block := range blocks {
			checkCaught(t, cores, block)
		}
	}
	for seed := range int64(40) {
		checkCaught(t, patternTrace(1+int(seed%4), seed), seed%8+1)
	}
}

// At both ends of each frame: the last byte of its length is no spot, the first
// one of its events is; the last one of its sum is, and the mark behind it is
// none.
func TestTheEndsOfFrames(t *testing.T) {
	cores := traceOf(patternSteps(7, 3), nil, patternSteps(8, 4))
	for block := int64(1); block <= 8; block++ {
		file, ahead := fileByHand(cores, int(block)), int64(2)
		want := func(at int64, want bool) {
			t.Helper()
			for bit := range int64(8) {
				if got := impl.IsCaught(cores, block, at, bit); got != want {
					t.Errorf("in blocks of %d, IsCaught at %d is %v", block, at, got)
				}
			}
			if got := slices.Contains(impl.SpotsOf(cores, block).List, at); got != want {
				t.Errorf("in blocks of %d, %d is one of the SpotsOf: %v", block, at, got)
			}
		}
		for _, f := range framesByHand(cores, int(block)) {
			size := int64(len(framedByHand(f)))
			for n, isSpot := range []bool{false, false, false, true} {
				want(ahead+int64(n), isSpot)
			}
			sum := ahead + size - 4
			for n := int64(-1); n < 4; n++ {
				want(sum+n, true)
			}
			ahead += size
			want(ahead, false)
		}
		for n, isSpot := range []bool{false, false, false, true, true, true, true, false} {
			want(ahead+int64(n), isSpot)
		}
		if ahead+7 != int64(len(file)) {
			t.Fatalf("the end begins at %d of %d bytes", ahead, len(file))
		}
		want(0, false)
		want(1, false)
		want(-1, false)
		want(int64(len(file))+1, false)
	}
}

func TestNothingIsCaughtAtNoBitOrNoPlace(t *testing.T) {
	for i, cores := range someTraces() {
		block := int64(i%8) + 1
		file, spots := fileByHand(cores, int(block)), spotsByHand(cores, int(block))
		for _, bit := range outOfByte() {
			for _, at := range append(slices.Clone(spots[:min(len(spots), 40)]), spots[len(spots)-1], 0, -1, int64(len(file))) {
				if impl.IsCaught(cores, block, at, bit) {
					t.Fatalf("IsCaught(%v, %d, %d, %d)", cores, block, at, bit)
				}
			}
		}
		size := int64(len(file))
		for _, at := range append(beyond(), -1, size, -2, size+1, -size, spots[0]-size, spots[0]+256, spots[0]+1<<32, spots[0]-1<<32, math.MinInt64+spots[0], 4000, 4001) {
			for bit := range int64(8) {
				if _, isSpot := slices.BinarySearch(spots, at); impl.IsCaught(cores, block, at, bit) != isSpot {
					t.Fatalf("IsCaught(%v, %d, %d, %d) is %v", cores, block, at, bit, !isSpot)
				}
			}
		}
	}
}

// frameEnds are how many bytes there are ahead of each frame, and behind the
// last one.
func frameEnds(cores [][]impl.Event, block int) []int {
	ends := []int{2}
	for _, f := range framesByHand(cores, block) {
		ends = append(ends, ends[len(ends)-1]+len(framedByHand(f)))
	}
	return ends
}

// checkWhole asks of the file, and of each beginning of it, one without bytes
// and those that end with a frame among them.
func checkWhole(t *testing.T, cores [][]impl.Event, block int64) {
	t.Helper()
	if !impl.IsWhole(cores, block) {
		t.Fatalf("IsWhole(%v, %d) is false", cores, block)
	}
	file := fileByHand(cores, int(block))
	for size := range file {
		for _, begin := range [][]byte{file[:size], bytes.Clone(file[:size])} {
			wantNoTrace(t, "cut off", begin, impl.ErrText)
		}
	}
	for _, end := range frameEnds(cores, int(block)) {
		wantNoTrace(t, "cut off behind a frame", file[:end], impl.ErrText)
	}
	wantTrace(t, "not cut off", file, cores)
}

func TestFilesThatAreCutOffAreFoundOut(t *testing.T) {
	traces := someTraces()
	for seed := range int64(100) {
		traces = append(traces, patternTrace(1+int(seed%4), seed))
	}
	for _, cores := range traces {
		for block := int64(1); block <= 8; block++ {
			checkWhole(t, cores, block)
		}
	}
	one, several := traceOf(eventsOf(store(3, 5))), traceOf(patternSteps(8, 2), nil, patternSteps(5, 3))
	if ends := frameEnds(one, 8); !slices.Equal(ends, []int{2, 11}) {
		t.Errorf("the frames of a file of one end at %v", ends)
	}
	if ends := frameEnds(several, 2); len(ends) != 8 {
		t.Errorf("the frames of a file of seven end at %v", ends)
	}
	// All that a cut between two frames takes away is the end: with one of its
	// own, the beginning would be a file.
	file := fileByHand(several, 2)
	for frames, end := range frameEnds(several, 2) {
		events := countIn(several, 2, frames)
		got := impl.DecodeTrace(ended(file[:end], frames, events))
		if got.Code != impl.OK || eventCount(got.Cores) != events {
			t.Errorf("the first %d frames, with an end, are read as %+v", frames, got)
		}
	}
}

// countIn tells how many events the first frames have.
func countIn(cores [][]impl.Event, block int, frames int) int {
	count := 0
	for _, f := range framesByHand(cores, block)[:frames] {
		count += len(f.Events)
	}
	return count
}

// auditAll asks each function of the chapter that takes a trace.
func auditAll(cores [][]impl.Event, block int64) string {
	spots := impl.SpotsOf(cores, block)
	caught := []bool{impl.IsWhole(cores, block)}
	for _, at := range append([]int64{-1, 0, 4, 1000}, spots.List[:min(len(spots.List), 3)]...) {
		for _, bit := range []int64{-1, 0, 7, 8} {
			caught = append(caught, impl.IsCaught(cores, block, at, bit))
		}
	}
	return fmt.Sprint(spots, caught)
}

func TestNoTraceIsChangedByAnAudit(t *testing.T) {
	traces := someTraces()
	for _, c := range faultyTraces() {
		if len(c.cores) < 100 {
			traces = append(traces, c.cores)
		}
	}
	for _, cores := range traces {
		whole := withRoom(cores)
		before := cloneTrace(whole)
		given := slices.Clone(whole)
		for i := range cores {
			given[i] = whole[i][:len(cores[i])]
		}
		for block := int64(0); block <= 9; block += 3 {
			auditAll(given[:len(cores)], block)
		}
		for i := range given {
			if i < len(cores) && len(given[i]) != len(cores[i]) {
				t.Errorf("row %d of %v is another one now", i, cores)
			}
			given[i] = given[i][:len(before[i])]
		}
		if !sameRows(whole, before) || !sameRows(given, before) {
			t.Errorf("the trace %v is changed", cores)
		}
	}
}

func TestNoLogIsChangedByAnAudit(t *testing.T) {
	logs := append(someLogs(), badLogs()...)
	for seed := range int64(200) {
		trace := anyTrace(3, 8, 2, 2, seed)
		logs = append(logs, logCase{"played", playedByHand(trace, anyPicks(30, seed)), 3}, logCase{"merged", mergedByHand(trace, nil), 3})
	}
	for _, c := range logs {
		whole := append(slices.Clone(c.log), logOf(3, 2, 1, 0, 3)...)
		before := slices.Clone(whole)
		wantFlat(t, c.name, whole[:len(c.log)], c.cores, flatByHand(c.log, c.cores))
		if !slices.Equal(whole, before) {
			t.Errorf("%s: the log is changed", c.name)
		}
	}
}

func TestNoDataIsChangedByTurnBit(t *testing.T) {
	for _, size := range []int{0, 1, 2, 9, 300, 4000, 4001, 5000} {
		whole := someBytes(size + 50)
		before := bytes.Clone(whole)
		for _, at := range []int64{-1, 0, 1, int64(size) - 1, int64(size), int64(size) + 1} {
			for _, bit := range append(outOfByte(), 0, 1, 2, 3, 4, 5, 6, 7) {
				impl.TurnBit(whole[:size], at, bit)
			}
		}
		if !bytes.Equal(whole, before) {
			t.Errorf("TurnBit changes an argument of %d bytes", size)
		}
	}
}

func TestTurnedDataIsNewMemory(t *testing.T) {
	for _, size := range []int{1, 2, 9, 32, 300, 4000} {
		for _, given := range [][]byte{someBytes(size), slices.Grow(someBytes(size), 100)} {
			at, bit := int64(size/2), int64(size%8)
			want := turnedByHand(given, at, bit)
			first, second := impl.TurnBit(given, at, bit).Bytes, impl.TurnBit(given, at, bit).Bytes
			first = first[:cap(first)]
			for i := range first {
				first[i] ^= 255
			}
			if !bytes.Equal(second, want) || !bytes.Equal(given, someBytes(size)) {
				t.Fatalf("an answer of TurnBit of %d bytes shares memory", size)
			}
			given = given[:cap(given)]
			for i := range given {
				given[i] ^= 255
			}
			if !bytes.Equal(second, want) {
				t.Fatalf("the answer about %d bytes turns with the argument", size)
			}
		}
	}
}

func TestSpotsAreNewMemory(t *testing.T) {
	for i, cores := range someTraces() {
		block := int64(i%8) + 1
		given, want := cloneTrace(cores), spotsByHand(cores, int(block))
		first, second := impl.SpotsOf(given, block).List, impl.SpotsOf(given, block).List
		spoilNumbers(first)
		for _, list := range given {
			spoil(list)
		}
		clear(given)
		if !slices.Equal(second, want) {
			t.Fatalf("an answer of SpotsOf(%v, %d) shares memory", cores, block)
		}
		wantSpots(t, "asked anew", cores, block, want)
	}
}

// Rows that share memory with one another are asked of as any others.
func TestRowsThatShareMemoryAreAudited(t *testing.T) {
	row := patternSteps(16, 51)
	cores := [][]impl.Event{row[:8], row[4:12], row[:8], row[3:4]}
	for block := int64(1); block <= 8; block++ {
		checkSpots(t, cores, block)
		checkWhole(t, cores, block)
	}
	checkCaught(t, cores, 3)
	if !slices.Equal(row, patternSteps(16, 51)) {
		t.Error("the rows are changed")
	}
}

// What is kept from a file, or from what a log stored, would turn the answers
// that follow. Asked many times, since the order of a map is another one each
// time.
func TestAnswersOfAnAuditHangOnTheArgumentsAlone(t *testing.T) {
	logs, traces := append(badLogs(), someLogs()...), someTraces()
	for seed := range int64(40) {
		logs = append(logs, logCase{"played", playedByHand(anyTrace(3, 8, 2, 3, seed), anyPicks(30, seed)), 3})
	}
	answers := func(i int) string {
		data := someBytes(i % 40)
		return fmt.Sprint(impl.IsFlat(logs[i].log, logs[i].cores), auditAll(traces[i%len(traces)], int64(i%10)), impl.TurnBit(data, int64(i%23), int64(i%9)))
	}
	var before []string
	for i := range logs {
		before = append(before, answers(i))
	}
	for range 10 {
		for i := len(logs) - 1; i >= 0; i-- {
			if after := answers(i); after != before[i] {
				t.Fatalf("the answers about log %d are %v, and were %v", i, after, before[i])
			}
		}
	}
}
