package tests

import (
	"fmt"
	"math"
	"slices"
	"testing"

	"loop.example/g00800/impl"
)

// logOf is a log of these cores, in which no two events are alike: whatever is
// told in another order shows.
func logOf(cores ...int64) []impl.Step {
	var log []impl.Step
	for i, core := range cores {
		log = append(log, impl.Step{Core: core, Event: impl.Event{Kind: int64(i % 2), Addr: 999999 - int64(i)*31249, Value: int64(i)}})
	}
	return log
}

// numbersOf are so many numbers of 0 to count - 1, the same at each call, with
// no rule that shows.
func numbersOf(size int, count int64, seed int64) []int64 {
	var list []int64
	for _, e := range patternSteps(size, seed) {
		list = append(list, e.Addr%count)
	}
	return list
}

// inARow is each core so often, one behind the other.
func inARow(times int, cores ...int64) []int64 {
	var list []int64
	for _, core := range cores {
		list = append(list, slices.Repeat([]int64{core}, times)...)
	}
	return list
}

type logCase struct {
	name  string
	log   []impl.Step
	cores int64
}

// someLogs are logs without a fault: without a step, full, with cores that have
// none first, in the middle and last, and of one core up to four.
func someLogs() []logCase {
	logs := []logCase{
		{"one step", logOf(0), 1},
		{"two events of one core", logOf(0, 0), 1},
		{"two cores", logOf(1, 0, 0), 2},
		{"turn about", logOf(0, 1, 0, 1, 0, 1), 2},
		{"the first core has none", logOf(1, 2, 1, 1), 3},
		{"the middle core has none", logOf(2, 0, 0, 2), 3},
		{"the last core has none", logOf(1, 0, 1), 3},
		{"only the first core has some", logOf(0, 0, 0), 4},
		{"only the last core has some", logOf(3, 3), 4},
		{"the two in the middle have none", logOf(3, 0, 3), 4},
		{"the first one and the last one have none", logOf(2, 1, 2), 4},
		{"all alike", slices.Repeat(logOf(0), 8), 1},
		{"alike in both cores", slices.Repeat([]impl.Step{{Core: 1, Event: store(7, 7)}, {Event: store(7, 7)}}, 8), 2},
		{"eight of one core", logOf(inARow(8, 0)...), 1},
		{"32 in a row", logOf(inARow(8, 0, 1, 2, 3)...), 4},
		{"32 in a row, backward", logOf(inARow(8, 3, 2, 1, 0)...), 4},
		{"32 turn about", logOf(slices.Repeat([]int64{0, 1, 2, 3}, 8)...), 4},
		{"32 turn about, backward", logOf(slices.Repeat([]int64{3, 2, 1, 0}, 8)...), 4},
		{"31", logOf(slices.Repeat([]int64{2, 0, 3, 1}, 8)[:31]...), 4},
		{"events at the edges", []impl.Step{{Core: 1, Event: store(999999, 999999)}, {Event: load(0, 0)}, {Core: 1, Event: load(999999, 0)}, {Event: store(0, 999999)}}, 2},
	}
	for cores := int64(1); cores <= 4; cores++ {
		logs = append(logs, logCase{"no step", nil, cores}, logCase{"an empty list of steps", []impl.Step{}, cores})
		for seed := range int64(60) {
			log := logOf(numbersOf(int(seed%33), cores, seed*4+cores)...)
			if logFaultByHand(log, cores) == impl.OK {
				logs = append(logs, logCase{fmt.Sprint("no rule ", seed), log, cores})
			}
		}
	}
	return logs
}

// logFaultByHand follows the words of the document, code by code.
func logFaultByHand(log []impl.Step, cores int64) int64 {
	if cores < 1 || cores > 4 {
		return impl.ErrRange
	}
	if len(log) > 32 {
		return impl.ErrMany
	}
	times := map[int64]int{}
	most := 0
	for _, s := range log {
		e := s.Event
		switch {
		case s.Core < 0 || s.Core >= cores:
			return impl.ErrRange
		case e.Kind != 0 && e.Kind != 1:
			return impl.ErrForm
		case e.Addr < 0 || e.Addr > 999999 || e.Value < 0 || e.Value > 999999:
			return impl.ErrRange
		}
		times[s.Core]++
		most = max(most, times[s.Core])
	}
	if most > 8 {
		return impl.ErrMany
	}
	return impl.OK
}

// splitByHand goes through the whole log for each core.
func splitByHand(log []impl.Step, cores int64) [][]impl.Event {
	split := make([][]impl.Event, cores)
	for core := range split {
		for _, s := range log {
			if s.Core == int64(core) {
				split[core] = append(split[core], s.Event)
			}
		}
	}
	return split
}

func coresByHand(log []impl.Step) []int64 {
	var cores []int64
	for _, s := range log {
		cores = append(cores, s.Core)
	}
	return cores
}

// mergedByHand follows the words of the document, for a trace without a fault:
// what is left is taken from the lowest core that has some, looked for anew at
// each step.
func mergedByHand(cores [][]impl.Event, picks []int64) []impl.Step {
	rest := cloneTrace(cores)
	var log []impl.Step
	take := func(core int) {
		log = append(log, impl.Step{Core: int64(core), Event: rest[core][0]})
		rest[core] = rest[core][1:]
	}
	for _, pick := range picks {
		if pick >= 0 && pick < int64(len(rest)) && len(rest[pick]) > 0 {
			take(int(pick))
		}
	}
	hasSome := func(list []impl.Event) bool { return len(list) > 0 }
	for lowest := slices.IndexFunc(rest, hasSome); lowest >= 0; lowest = slices.IndexFunc(rest, hasSome) {
		take(lowest)
	}
	return log
}

// wantSplit asks SplitLog and PicksOf: beside a code all else is zero.
func wantSplit(t *testing.T, name string, log []impl.Step, cores int64, split [][]impl.Event, picks []int64) {
	t.Helper()
	if got := impl.SplitLog(log, cores); got.Code != impl.OK || !sameRows(got.Cores, split) {
		t.Errorf("%s: SplitLog(%v, %d) is %+v, not %v", name, log, cores, got, split)
	}
	if got := impl.PicksOf(log, cores); got.Code != impl.OK || !slices.Equal(got.List, picks) {
		t.Errorf("%s: PicksOf(%v, %d) is %+v, not %v", name, log, cores, got, picks)
	}
}

// wantLogFault asks LogFault, and the two functions that tell its code.
func wantLogFault(t *testing.T, name string, log []impl.Step, cores int64, code int64) {
	t.Helper()
	wantCode(t, fmt.Sprintf("%s: LogFault of %d steps and %d cores", name, len(log), cores), impl.LogFault(log, cores), code)
	split, picks := impl.SplitLog(log, cores), impl.PicksOf(log, cores)
	if split.Code != code || code != impl.OK && len(split.Cores) != 0 {
		t.Errorf("%s: SplitLog of %d steps and %d cores is %+v, not code %d alone", name, len(log), cores, split, code)
	}
	if picks.Code != code || code != impl.OK && len(picks.List) != 0 {
		t.Errorf("%s: PicksOf of %d steps and %d cores is %+v, not code %d alone", name, len(log), cores, picks, code)
	}
}

func wantMerged(t *testing.T, name string, cores [][]impl.Event, picks []int64, want []impl.Step) {
	t.Helper()
	if got := impl.MergeTrace(cores, picks); got.Code != impl.OK || !slices.Equal(got.Log, want) {
		t.Fatalf("%s: MergeTrace(%v, %v) is %+v, not %v", name, cores, picks, got, want)
	}
}

func wantNoLog(t *testing.T, name string, cores [][]impl.Event, picks []int64, code int64) {
	t.Helper()
	if got := impl.MergeTrace(cores, picks); got.Code != code || len(got.Log) != 0 {
		t.Errorf("%s: MergeTrace with %d picks is %+v, not code %d alone", name, len(picks), got, code)
	}
}

func TestLogConstants(t *testing.T) {
	if impl.MaxLog != 32 {
		t.Errorf("MaxLog is %d, not 32", impl.MaxLog)
	}
}

func coresOutOfBounds() []int64 {
	return []int64{0, 5, -1, -4, 6, 8, 32, 255, 256, 257, 1<<32 + 1, math.MaxInt64, math.MaxInt64 - 3, math.MinInt64, math.MinInt64 + 1}
}

func TestALogHas1To4Cores(t *testing.T) {
	for _, c := range someLogs() {
		for cores := c.cores; cores <= 4; cores++ {
			wantLogFault(t, c.name, c.log, cores, impl.OK)
		}
		for _, cores := range coresOutOfBounds() {
			wantLogFault(t, c.name, c.log, cores, impl.ErrRange)
		}
	}
	for _, cores := range coresOutOfBounds() {
		wantLogFault(t, "cores out of bounds ahead of no kind", []impl.Step{{Event: impl.Event{Kind: 2}}}, cores, impl.ErrRange)
		wantLogFault(t, "cores out of bounds ahead of nine steps", logOf(inARow(9, 0)...), cores, impl.ErrRange)
	}
}

// The steps that are too many are told ahead of what stands in them, and
// behind a number of cores that leaves its bounds.
func TestALogHas32StepsAtMost(t *testing.T) {
	turns := slices.Repeat([]int64{0, 1, 2, 3}, 9)
	for size := range 33 {
		wantLogFault(t, "up to 32", logOf(turns[:size]...), 4, impl.OK)
	}
	for size := 33; size <= 36; size++ {
		wantLogFault(t, "too many", logOf(turns[:size]...), 4, impl.ErrMany)
	}
	for _, size := range []int{33, 34, 64, 100, 1000000} {
		for cores := int64(1); cores <= 4; cores++ {
			wantLogFault(t, "too many of no rule", make([]impl.Step, size), cores, impl.ErrMany)
		}
		for _, cores := range coresOutOfBounds() {
			wantLogFault(t, "too many, and cores out of bounds", make([]impl.Step, size), cores, impl.ErrRange)
		}
	}
	for _, bad := range []impl.Step{{Core: -1}, {Core: 4}, {Event: impl.Event{Kind: 2}}, {Event: load(-1, 0)}} {
		for _, size := range []int{33, 40} {
			log := logOf(slices.Repeat([]int64{0, 1, 2, 3}, 10)[:size]...)
			for _, at := range []int{0, 16, 32, size - 1} {
				log[at] = bad
				wantLogFault(t, "too many, one of them with a fault", log, 4, impl.ErrMany)
			}
		}
		wantLogFault(t, "32, the last one with a fault", append(logOf(slices.Repeat([]int64{0, 1, 2, 3}, 8)[:31]...), bad), 4, logFaultByHand([]impl.Step{bad}, 4))
	}
	// Only the steps of the list count, not those that its memory has room for.
	wantLogFault(t, "room behind", make([]impl.Step, 8, 100), 1, impl.OK)
}

func TestTheCoreOfAStepIsOneOfTheCores(t *testing.T) {
	for cores := int64(1); cores <= 4; cores++ {
		for core := range cores {
			wantLogFault(t, "a core that is there", logOf(core), cores, impl.OK)
		}
		for _, core := range []int64{-1, -2, cores, cores + 1, 4, 5, 255, 256, -256, 1 << 32, 1<<32 + 1, -1 << 32, math.MinInt64, math.MinInt64 + 1, math.MaxInt64} {
			for at := range 5 {
				log := logOf(inARow(5, cores-1)...)
				wantLogFault(t, "the last core", log, cores, impl.OK)
				log[at].Core = core
				wantLogFault(t, fmt.Sprint("core ", core, " at place ", at), log, cores, impl.ErrRange)
				wantLogFault(t, fmt.Sprint("core ", core, " alone"), log[at:at+1], cores, impl.ErrRange)
			}
		}
	}
}

func TestTheEventsOfALogHaveNoFault(t *testing.T) {
	for e, code := range faultyEvents() {
		for at := range 5 {
			log := logOf(1, 0, 2, 0, 1)
			log[at].Event = e
			wantLogFault(t, "an event with a fault", log, 3, code)
			for _, core := range []int64{-1, 3, math.MinInt64, math.MaxInt64} {
				log[at].Core = core
				wantLogFault(t, "the core ahead of the event", log, 3, impl.ErrRange)
			}
		}
	}
}

// Step by step: all of an earlier one is asked ahead of a later one.
func TestTheFirstStepWithAFaultIsTold(t *testing.T) {
	noCore, noKind := impl.Step{Core: 2}, impl.Step{Event: impl.Event{Kind: 2}}
	wide, both := impl.Step{Event: store(0, 1000000)}, impl.Step{Core: -1, Event: impl.Event{Kind: -1}}
	bad := []impl.Step{noCore, noKind, wide, both}
	for i, code := range []int64{impl.ErrRange, impl.ErrForm, impl.ErrRange, impl.ErrRange} {
		for _, later := range bad {
			wantLogFault(t, "side by side", []impl.Step{bad[i], later}, 2, code)
			for first := range 5 {
				for second := first + 1; second < 6; second++ {
					log := logOf(0, 1, 1, 0, 1, 0)
					log[first], log[second] = bad[i], later
					wantLogFault(t, "an earlier one and a later one", log, 2, code)
				}
			}
		}
	}
}

func TestACoreOfALogHasEightStepsAndNotNine(t *testing.T) {
	for cores := int64(1); cores <= 4; cores++ {
		for core := range cores {
			others := slices.DeleteFunc([]int64{0, 1, 2, 3}[:cores], func(n int64) bool { return n == core })
			for size := 1; size <= 20; size++ {
				code := int64(impl.OK)
				if size > 8 {
					code = impl.ErrMany
				}
				own := inARow(size, core)
				wantLogFault(t, "of one core", logOf(own...), cores, code)
				wantLogFault(t, "ahead of others", logOf(append(slices.Clone(own), others...)...), cores, code)
				wantLogFault(t, "behind others", logOf(append(slices.Clone(others), own...)...), cores, code)
				wantLogFault(t, "others between", logOf(slices.Concat(own[:size/2], others, own[size/2:], others)...), cores, code)
			}
		}
	}
}

// "Then": the steps of a core are counted behind the faults of all steps.
func TestAFaultOfALaterStepIsToldAheadOfNineSteps(t *testing.T) {
	for _, size := range []int{9, 10, 31} {
		log := logOf(inARow(size, 1)...)
		wantLogFault(t, "too many of one core", log, 2, impl.ErrMany)
		for bad, code := range map[impl.Step]int64{
			{Core: 2}:                             impl.ErrRange,
			{Core: -1}:                            impl.ErrRange,
			{Core: 4}:                             impl.ErrRange,
			{Core: 256}:                           impl.ErrRange,
			{Core: 1, Event: impl.Event{Kind: 2}}: impl.ErrForm,
			{Core: 0, Event: impl.Event{Kind: 2}}: impl.ErrForm,
			{Core: 1, Event: load(1000000, 0)}:    impl.ErrRange,
			{Core: 0, Event: store(0, -1)}:        impl.ErrRange,
		} {
			wantLogFault(t, "a fault behind nine steps", append(slices.Clone(log), bad), 2, code)
			wantLogFault(t, "a fault ahead of nine steps", append([]impl.Step{bad}, log...), 2, code)
			last := slices.Clone(log)
			last[size-1] = bad
			wantLogFault(t, "a fault in the last one of them", last, 2, code)
		}
	}
}

func TestLogFaultOfAnySteps(t *testing.T) {
	cores := []int64{0, 1, 1, 2, 3, 0, 1, 2, -1, 4}
	kinds, numbers := []int64{0, 1, 0, 1, 0, 1, 1, 2}, []int64{0, 999999, 5, 7, 31, 1000000, 0, 0, -1, 1}
	for seed := range int64(20000) {
		// Few steps of a wide choice, and many of a narrow one.
		size, wide := int(seed%13), int64(10)
		if seed%2 == 0 {
			size, wide = int(seed%35), 5
		}
		var log []impl.Step
		for i, n := range numbersOf(size, 1000000, seed) {
			log = append(log, impl.Step{Core: cores[n%wide], Event: impl.Event{Kind: kinds[n/10%min(8, wide+1)], Addr: numbers[n/100%wide], Value: numbers[(n/1000+int64(i))%wide]}})
		}
		count := seed/35%7 - 1
		wantLogFault(t, "any steps", log, count, logFaultByHand(log, count))
	}
}

func TestSplitLogAndPicksOfTheDocument(t *testing.T) {
	a, b, c, d := store(1, 1), load(1, 1), load(2, 0), store(999999, 999999)
	step := func(core int64, e impl.Event) impl.Step { return impl.Step{Core: core, Event: e} }
	wantSplit(t, "one step", []impl.Step{step(0, a)}, 1, [][]impl.Event{{a}}, []int64{0})
	wantSplit(t, "two cores", []impl.Step{step(1, c), step(0, a), step(0, b)}, 2, [][]impl.Event{{a, b}, {c}}, []int64{1, 0, 0})
	wantSplit(t, "turn about", []impl.Step{step(0, b), step(1, c), step(0, a), step(1, d)}, 2, [][]impl.Event{{b, a}, {c, d}}, []int64{0, 1, 0, 1})
	wantSplit(t, "the first core has none", []impl.Step{step(2, a), step(1, b), step(2, c)}, 3, [][]impl.Event{nil, {b}, {a, c}}, []int64{2, 1, 2})
	wantSplit(t, "the middle core has none", []impl.Step{step(2, a), step(0, b), step(2, c)}, 3, [][]impl.Event{{b}, nil, {a, c}}, []int64{2, 0, 2})
	wantSplit(t, "the last core has none", []impl.Step{step(1, a), step(0, b), step(1, c)}, 3, [][]impl.Event{{b}, {a, c}, nil}, []int64{1, 0, 1})
	wantSplit(t, "one core of four", []impl.Step{step(2, d), step(2, d)}, 4, [][]impl.Event{nil, nil, {d, d}, nil}, []int64{2, 2})
	wantSplit(t, "the same event in all", []impl.Step{step(3, d), step(1, d), step(0, d), step(2, d)}, 4, [][]impl.Event{{d}, {d}, {d}, {d}}, []int64{3, 1, 0, 2})
	for cores := int64(1); cores <= 4; cores++ {
		wantSplit(t, "no step", nil, cores, make([][]impl.Event, cores), nil)
		wantSplit(t, "an empty list of steps", []impl.Step{}, cores, make([][]impl.Event, cores), nil)
	}
}

func TestSplitLogAndPicksOfOfAnyLogs(t *testing.T) {
	for _, c := range someLogs() {
		for cores := c.cores; cores <= 4; cores++ {
			wantSplit(t, c.name, c.log, cores, splitByHand(c.log, cores), coresByHand(c.log))
		}
	}
}

func TestMergeTraceOfTheDocument(t *testing.T) {
	a, b, c, d := store(1, 1), load(1, 1), load(2, 0), store(999999, 999999)
	step := func(core int64, e impl.Event) impl.Step { return impl.Step{Core: core, Event: e} }
	two, three := [][]impl.Event{{a, b}, {c}}, [][]impl.Event{{a}, {b, c}, {d}}
	inOrder, turned := []impl.Step{step(0, a), step(0, b), step(1, c)}, []impl.Step{step(1, c), step(0, a), step(0, b)}
	cases := []struct {
		name  string
		cores [][]impl.Event
		picks []int64
		want  []impl.Step
	}{
		{"picks that fit", two, []int64{1, 0, 0}, turned},
		{"picks that fit, core by core", two, []int64{0, 0, 1}, inOrder},
		{"picks that fit, turn about", two, []int64{0, 1, 0}, []impl.Step{step(0, a), step(1, c), step(0, b)}},
		{"no picks", two, nil, inOrder},
		{"an empty list of picks", two, []int64{}, inOrder},
		{"too few picks", two, []int64{1}, turned},
		{"too few picks, what is left from the lowest on", three, []int64{2}, []impl.Step{step(2, d), step(0, a), step(1, b), step(1, c)}},
		{"too few picks, in the middle of a core", three, []int64{1}, []impl.Step{step(1, b), step(0, a), step(1, c), step(2, d)}},
		{"too few picks, the lowest core has nothing left", three, []int64{0, 2}, []impl.Step{step(0, a), step(2, d), step(1, b), step(1, c)}},
		{"more picks than events", two, []int64{1, 0, 0, 0, 1, 1, 0}, turned},
		{"picks of who has nothing left", two, []int64{1, 1, 1, 0, 1, 0}, turned},
		{"picks of who has nothing left, and too few", two, []int64{1, 1, 1}, turned},
		{"picks of who never had any", [][]impl.Event{nil, {a, b}, nil, {c}}, []int64{0, 2, 3, 0, 2, 1}, []impl.Step{step(3, c), step(1, a), step(1, b)}},
		{"picks that are no core", two, []int64{-1, 2, 1, math.MinInt64, math.MaxInt64}, turned},
		{"picks that are no core alone", two, []int64{-1, 2, 3, 4, math.MinInt64, math.MaxInt64}, inOrder},
		{"the example of the stage", two, []int64{1, 1, 7, 0}, turned},
		{"one core", [][]impl.Event{{a, b, c}}, []int64{0}, []impl.Step{step(0, a), step(0, b), step(0, c)}},
		{"one core, picks of others", [][]impl.Event{{a, b}}, []int64{1, 2, 3, 0, 1}, []impl.Step{step(0, a), step(0, b)}},
		{"no events", [][]impl.Event{nil, {}}, nil, nil},
		{"no events, and picks", [][]impl.Event{nil, {}, nil}, []int64{0, 1, 2, 0, 3, -1}, nil},
		{"the same event in all", [][]impl.Event{{d, d}, {d}}, []int64{0, 1}, []impl.Step{step(0, d), step(1, d), step(0, d)}},
	}
	for _, c := range cases {
		wantMerged(t, c.name, c.cores, c.picks, c.want)
	}
}

// Behind the picks each core goes to its end ahead of the next one.
func TestWhatIsLeftGoesCoreByCore(t *testing.T) {
	full := [][]impl.Event{patternSteps(8, 1), patternSteps(8, 2), patternSteps(8, 3), patternSteps(8, 4)}
	got := impl.MergeTrace(full, nil)
	if !slices.Equal(coresByHand(got.Log), inARow(8, 0, 1, 2, 3)) {
		t.Errorf("without picks the cores are %v", coresByHand(got.Log))
	}
	got = impl.MergeTrace(full, []int64{3, 1, 3, 0, 7})
	if want := slices.Concat([]int64{3, 1, 3, 0}, inARow(7, 0, 1), inARow(8, 2), inARow(6, 3)); !slices.Equal(coresByHand(got.Log), want) {
		t.Errorf("behind four picks the cores are %v, not %v", coresByHand(got.Log), want)
	}
	got = impl.MergeTrace(full, inARow(9, 2, 0))
	if want := inARow(8, 2, 0, 1, 3); !slices.Equal(coresByHand(got.Log), want) {
		t.Errorf("behind two whole cores the cores are %v, not %v", coresByHand(got.Log), want)
	}
	for _, cores := range someTraces() {
		wantMerged(t, "no picks", cores, nil, mergedByHand(cores, nil))
		for core := range int64(4) {
			for size := range 10 {
				wantMerged(t, "one core picked", cores, inARow(size, core), mergedByHand(cores, inARow(size, core)))
			}
		}
	}
}

// All lists of up to six picks, of cores and of numbers that are none, for
// small traces of each form.
func TestMergeTraceOfAllPicks(t *testing.T) {
	a, b, c := store(3, 5), load(1, 300), store(4, 1)
	traces := [][][]impl.Event{{{a, b}}, {{a}, {b}}, {nil, {a, b}}, {{a, b}, nil}, {{a, b}, {c}}, {{a}, {b, c}}, {{a, b}, {c, a}}, {{a}, nil, {b}}, {{a}, {b, b}, {c}}, {nil, {a}, {b, c}}, {{a, b}, {c}, nil}, {nil, nil, nil}}
	choice := []int64{-1, 0, 1, 2, 3}
	for _, cores := range traces {
		lists := [][]int64{nil}
		for range 6 {
			for _, picks := range lists {
				wantMerged(t, "all picks", cores, picks, mergedByHand(cores, picks))
			}
			var longer [][]int64
			for _, picks := range lists {
				for _, pick := range choice {
					longer = append(longer, append(slices.Clone(picks), pick))
				}
			}
			lists = longer
		}
	}
}

// anyPicks are so many picks of cores and, now and then, of no core.
func anyPicks(size int, seed int64) []int64 {
	choice := []int64{0, 1, 2, 3, 0, 1, 2, 3, 3, 2, 1, 0, -1, 4, 5, 7, 256, -256, 1 << 32, math.MinInt64, math.MaxInt64}
	picks := numbersOf(size, int64(len(choice)), seed)
	for i, n := range picks {
		picks[i] = choice[n]
	}
	return picks
}

func TestMergeTraceOfAnyPicks(t *testing.T) {
	traces := someTraces()
	for seed := range int64(1500) {
		traces = append(traces, patternTrace(1+int(seed%4), seed))
	}
	for i, cores := range traces {
		for _, size := range []int{i % 8, 8 + i%25, 32, 33, 34 + i%66, 100} {
			picks := anyPicks(size, int64(i*100+size))
			wantMerged(t, "any picks", cores, picks, mergedByHand(cores, picks))
		}
	}
}

// A number that is no core is passed over wherever it stands: without it the
// log is the same.
func TestPicksThatAreNoCoreArePassedOver(t *testing.T) {
	for i, cores := range someTraces() {
		count := int64(len(cores))
		picks := numbersOf(20, count, int64(i))
		want := mergedByHand(cores, picks)
		for _, none := range []int64{-1, -2, count, count + 1, count + 4, -count, 255, 256, -256, 1 << 32, 1<<32 + 1, -1 << 32, math.MinInt64, math.MinInt64 + 1, math.MaxInt64, math.MaxInt64 - 1} {
			for _, at := range []int{0, 1, 10, 19, 20} {
				wantMerged(t, fmt.Sprint("no core ", none), cores, slices.Insert(slices.Clone(picks), at, none), want)
			}
			wantMerged(t, "no core alone", cores, inARow(100, none), mergedByHand(cores, nil))
			wantMerged(t, "no core ahead of all", cores, append(inARow(80, none), picks...), want)
		}
	}
}

// A pick of who has nothing left is passed over too, and takes nothing from
// the others.
func TestPicksOfWhoHasNothingLeftArePassedOver(t *testing.T) {
	for i, cores := range someTraces() {
		for core, list := range cores {
			own := inARow(len(list), int64(core))
			others := numbersOf(15, int64(len(cores)), int64(i))
			want := mergedByHand(cores, append(slices.Clone(own), others...))
			for more := range 40 {
				picks := append(inARow(len(list)+more, int64(core)), others...)
				wantMerged(t, "picked once more", cores, picks, want)
			}
			picks := slices.Clone(own)
			for _, other := range others {
				picks = append(picks, int64(core), other, int64(core))
			}
			wantMerged(t, "picked between others", cores, picks, want)
			if log := impl.MergeTrace(cores, inARow(100, int64(core))).Log; !slices.Equal(coresByHand(log)[:len(list)], own) || len(log) != len(want) {
				t.Errorf("core %d of %v picked 100 times: %v", core, cores, log)
			}
		}
	}
}

func TestThereAre100PicksAtMost(t *testing.T) {
	for i, cores := range someTraces() {
		for _, size := range []int{99, 100} {
			picks := anyPicks(size, int64(i))
			wantMerged(t, "100 picks", cores, picks, mergedByHand(cores, picks))
			// The last one counts, as any other.
			picks = append(inARow(size-1, -1), int64(len(cores))-1)
			wantMerged(t, "the last one of 100", cores, picks, mergedByHand(cores, picks))
		}
		for _, size := range []int{101, 102, 128, 200, 256, 356, 10000} {
			wantNoLog(t, "too many picks", cores, anyPicks(size, int64(i)), impl.ErrMany)
			wantNoLog(t, "too many picks, none of which is a core", cores, inARow(size, -1), impl.ErrMany)
			wantNoLog(t, "too many picks of one core", cores, make([]int64, size), impl.ErrMany)
		}
		// Only the picks of the list count, not those that its memory has room for.
		wantMerged(t, "room behind", cores, make([]int64, 3, 1000), mergedByHand(cores, make([]int64, 3)))
	}
	wantNoLog(t, "very many picks", [][]impl.Event{nil}, make([]int64, 5000000), impl.ErrMany)
}

func TestMergeTraceTellsTheFaultAheadOfThePicks(t *testing.T) {
	lists := [][]int64{nil, {0}, {-1, 9}, anyPicks(100, 3), anyPicks(101, 4), make([]int64, 101), make([]int64, 5000)}
	for _, picks := range lists {
		for _, c := range faultyTraces() {
			wantNoLog(t, c.name, c.cores, picks, c.want)
		}
		for e, code := range faultyEvents() {
			wantNoLog(t, "an event with a fault", [][]impl.Event{{e}}, picks, code)
			wantNoLog(t, "the last event has a fault", [][]impl.Event{{load(1, 1)}, nil, append(patternSteps(7, 2), e)}, picks, code)
		}
	}
}

func TestWhatIsMergedIsSplitAgain(t *testing.T) {
	traces := someTraces()
	for seed := range int64(1000) {
		traces = append(traces, patternTrace(1+int(seed%4), seed))
	}
	for i, cores := range traces {
		for _, size := range []int{0, i % 10, 32, 100} {
			log := impl.MergeTrace(cores, anyPicks(size, int64(i))).Log
			wantCode(t, "LogFault of what was merged", impl.LogFault(log, int64(len(cores))), impl.OK)
			got := impl.SplitLog(log, int64(len(cores)))
			if got.Code != impl.OK || !sameRows(got.Cores, cores) || !impl.SameTraces(got.Cores, cores) {
				t.Fatalf("%v is merged and split into %+v", cores, got)
			}
		}
	}
}

// checkMergedAgain: the picks of a log merge what it was split into to the log.
func checkMergedAgain(t *testing.T, name string, log []impl.Step, cores int64) {
	t.Helper()
	split, picks := impl.SplitLog(log, cores), impl.PicksOf(log, cores)
	got := impl.MergeTrace(split.Cores, picks.List)
	if got.Code != impl.OK || !slices.Equal(got.Log, log) || !impl.SameLogs(got.Log, log) {
		t.Fatalf("%s: the log %v of %d cores is split and merged to %+v", name, log, cores, got)
	}
}

func TestWhatIsSplitIsMergedAgain(t *testing.T) {
	for _, c := range someLogs() {
		for cores := c.cores; cores <= 4; cores++ {
			checkMergedAgain(t, c.name, c.log, cores)
		}
	}
	// All logs of up to six steps of three cores.
	for size := range 7 {
		row := make([]int64, size)
		for n, end := 0, int(math.Pow(3, float64(size))); n < end; n++ {
			for i, rest := 0, n; i < size; i, rest = i+1, rest/3 {
				row[i] = int64(rest % 3)
			}
			checkMergedAgain(t, "all logs", logOf(row...), 3)
		}
	}
	for i, cores := range someTraces() {
		checkMergedAgain(t, "what was merged", mergedByHand(cores, anyPicks(40, int64(i))), int64(len(cores)))
	}
}

// differentLogs are logs no two of which are the same; some have faults.
func differentLogs() [][]impl.Step {
	base := []impl.Step{{Core: 1, Event: store(3, 5)}, {Core: 0, Event: load(7, 9)}, {Core: 2, Event: store(31, 300)}}
	logs := [][]impl.Step{nil, {{}}, {{}, {}}, base[:1], base[1:2], base[:2], base[1:], base}
	for at := range base {
		// Each field of each step, turned alone.
		for _, turn := range []func(s *impl.Step){
			func(s *impl.Step) { s.Core++ },
			func(s *impl.Step) { s.Core = -1 },
			func(s *impl.Step) { s.Event.Kind ^= 1 },
			func(s *impl.Step) { s.Event.Kind = 2 },
			func(s *impl.Step) { s.Event.Addr++ },
			func(s *impl.Step) { s.Event.Addr += 1 << 32 },
			func(s *impl.Step) { s.Event.Value++ },
			func(s *impl.Step) { s.Event.Value = math.MinInt64 },
		} {
			log := slices.Clone(base)
			turn(&log[at])
			logs = append(logs, log)
		}
	}
	backward := slices.Clone(base)
	slices.Reverse(backward)
	long := logOf(numbersOf(1000, 9, 2)...)
	turned := slices.Clone(long)
	turned[999].Core += 1 << 32
	return append(logs, backward, append(slices.Clone(base), base...), append(slices.Clone(base), impl.Step{}), []impl.Step{{Core: 5, Event: store(3, 1)}}, []impl.Step{{Core: 3, Event: store(5, 1)}}, []impl.Step{{Core: 1, Event: store(5, 3)}},
		[]impl.Step{{Core: math.MinInt64}}, []impl.Step{{Core: math.MaxInt64}}, long, long[:999], long[1:], turned, make([]impl.Step, 32), make([]impl.Step, 33))
}

func TestSameLogs(t *testing.T) {
	for i, a := range differentLogs() {
		for j, b := range differentLogs() {
			if got := impl.SameLogs(a, slices.Clone(b)); got != (i == j) {
				t.Errorf("SameLogs of logs %d and %d (%v, %v) is %v", i, j, a[:min(len(a), 4)], b[:min(len(b), 4)], got)
			}
		}
	}
	for _, c := range someLogs() {
		if !impl.SameLogs(c.log, slices.Clone(c.log)) || !impl.SameLogs(c.log, c.log) {
			t.Errorf("%s: the log is not the same as itself", c.name)
		}
		if size := len(c.log); size > 0 && (impl.SameLogs(c.log, c.log[:size-1]) || impl.SameLogs(c.log[1:], c.log) && size > 1) {
			t.Errorf("%s: the log is the same as a part of it", c.name)
		}
	}
	if !impl.SameLogs(nil, []impl.Step{}) || !impl.SameLogs([]impl.Step{}, nil) || !impl.SameLogs(nil, nil) || !impl.SameLogs([]impl.Step{}, []impl.Step{}) {
		t.Error("nil and the log without a step are not the same")
	}
	if long := logOf(0, 1, 2, 3); !impl.SameLogs(long[:2], logOf(0, 1)) || !impl.SameLogs(logOf(0, 1), long[:2]) {
		t.Error("steps behind the end of a log are looked at")
	}
}

// badLogs are logs with a fault, of 40 steps at most.
func badLogs() []logCase {
	wide := logOf(0, 1, 0)
	wide[1].Event.Value = -1
	noKind := logOf(0, 1, 0)
	noKind[2].Event.Kind = 9
	return []logCase{
		{"no cores", logOf(0, 0), 0}, {"five cores", logOf(0, 4), 5}, {"no such core", logOf(0, 1, 2, 1), 2}, {"below 0", logOf(0, -1, 0), 2},
		{"out of bounds", wide, 2}, {"no kind", noKind, 2}, {"nine", logOf(inARow(9, 1)...), 2}, {"33", logOf(numbersOf(33, 4, 5)...), 4}, {"40", logOf(numbersOf(40, 4, 5)...), 4},
	}
}

// The logs passed have room behind them, in which nothing may be written either.
func TestNoLogIsChanged(t *testing.T) {
	for _, c := range append(someLogs(), badLogs()...) {
		whole := append(slices.Clone(c.log), logOf(3, 2, 1, 0, 3)...)
		before := slices.Clone(whole)
		log := whole[:len(c.log)]
		impl.LogFault(log, c.cores)
		impl.SplitLog(log, c.cores)
		impl.PicksOf(log, c.cores)
		impl.SameLogs(log, before)
		impl.SameLogs(before, log)
		impl.SameLogs(log, log)
		if !slices.Equal(whole, before) {
			t.Errorf("%s: the log is changed", c.name)
		}
	}
}

func TestNoTraceAndNoPicksAreChangedByMerging(t *testing.T) {
	traces := someTraces()
	for _, c := range faultyTraces() {
		if len(c.cores) < 100 {
			traces = append(traces, c.cores)
		}
	}
	for i, cores := range traces {
		whole, picks := withRoom(cores), anyPicks(150, int64(i))
		before, picksBefore := cloneTrace(whole), slices.Clone(picks)
		given := slices.Clone(whole)
		for core := range cores {
			given[core] = whole[core][:len(cores[core])]
		}
		for _, size := range []int{0, 1, 20, 100, 101} {
			impl.MergeTrace(given[:len(cores)], picks[:size])
		}
		for core := range given {
			if core < len(cores) && len(given[core]) != len(cores[core]) {
				t.Errorf("row %d of %v is another one now", core, cores)
			}
			given[core] = given[core][:len(before[core])]
		}
		if !sameRows(whole, before) || !sameRows(given, before) {
			t.Errorf("the trace %v is changed", cores)
		}
		if !slices.Equal(picks, picksBefore) {
			t.Errorf("the picks are changed, with the trace %v", cores)
		}
	}
}

// spoilLog writes into all the memory that a log has, that behind its end, too.
func spoilLog(log []impl.Step) {
	log = log[:cap(log)]
	for i := range log {
		log[i] = impl.Step{Core: 9, Event: load(9, 9)}
	}
}

func spoilNumbers(list []int64) {
	list = list[:cap(list)]
	for i := range list {
		list[i] = 9
	}
}

func TestMergedLogsAreNewMemory(t *testing.T) {
	for i, cores := range someTraces() {
		given, picks := cloneTrace(cores), anyPicks(30, int64(i))
		want := mergedByHand(cores, picks)
		first, second, third := impl.MergeTrace(given, picks).Log, impl.MergeTrace(given, picks).Log, impl.MergeTrace(given, picks).Log
		spoilLog(first)
		if !slices.Equal(second, want) || !sameRows(given, cores) || !slices.Equal(picks, anyPicks(30, int64(i))) {
			t.Fatalf("an answer of MergeTrace shares memory: %v", cores)
		}
		for _, list := range given {
			spoil(list)
		}
		clear(given)
		spoilNumbers(picks)
		if !slices.Equal(second, want) || !slices.Equal(third, want) {
			t.Fatalf("the log of %v turns with the arguments", cores)
		}
	}
}

func TestSplitTracesAreNewMemory(t *testing.T) {
	for _, c := range someLogs() {
		log, want := slices.Clone(c.log), splitByHand(c.log, c.cores)
		for core := range c.cores {
			first, second := impl.SplitLog(log, c.cores).Cores, impl.SplitLog(log, c.cores).Cores
			turned := cloneTrace(want)
			spoil(first[core])
			turned[core] = slices.Clone(first[core])
			if !sameRows(first, turned) {
				t.Fatalf("%s: two lists of one answer share memory", c.name)
			}
			clear(first[:cap(first)])
			if !sameRows(second, want) || !slices.Equal(log, c.log) {
				t.Fatalf("%s: an answer of SplitLog shares memory", c.name)
			}
		}
		answer := impl.SplitLog(log, c.cores).Cores
		spoilLog(log)
		if !sameRows(answer, want) {
			t.Fatalf("%s: the trace turns with the log", c.name)
		}
		// A row that goes on in the memory behind it must not reach another one.
		for core := range answer {
			_ = append(answer[core], manyOf(9, load(9, 9))...)
		}
		if !sameRows(answer, want) {
			t.Fatalf("%s: two lists of one answer go on in one another", c.name)
		}
	}
}

func TestPicksAreNewMemory(t *testing.T) {
	for _, c := range someLogs() {
		log, want := slices.Clone(c.log), coresByHand(c.log)
		first, second := impl.PicksOf(log, c.cores).List, impl.PicksOf(log, c.cores).List
		spoilNumbers(first)
		if !slices.Equal(second, want) || !slices.Equal(log, c.log) {
			t.Fatalf("%s: an answer of PicksOf shares memory", c.name)
		}
		spoilLog(log)
		if !slices.Equal(second, want) {
			t.Fatalf("%s: the picks turn with the log", c.name)
		}
	}
}

// Rows that share memory with one another are merged as any others.
func TestRowsThatShareMemoryAreMerged(t *testing.T) {
	row := patternSteps(16, 51)
	cores := [][]impl.Event{row[:8], row[4:12], row[:8], row[3:4]}
	for seed := range int64(50) {
		picks := anyPicks(int(seed*2), seed)
		wantMerged(t, "rows that share memory", cores, picks, mergedByHand(cores, picks))
	}
	if !slices.Equal(row, patternSteps(16, 51)) {
		t.Error("the rows are changed")
	}
}

// logAnswers asks each function of the chapter.
func logAnswers(c logCase, cores [][]impl.Event, picks []int64) []string {
	return []string{
		fmt.Sprint(impl.LogFault(c.log, c.cores), impl.SplitLog(c.log, c.cores), impl.PicksOf(c.log, c.cores)),
		fmt.Sprint(impl.MergeTrace(cores, picks)),
		fmt.Sprint(impl.SameLogs(c.log, logOf(0, 0)), impl.SameLogs(c.log, c.log)),
	}
}

// What is kept from a log that was refused, or from a trace that was merged,
// would turn the answers that follow. Asked many times, since the order of a
// map is another one each time.
func TestAnswersAboutLogsHangOnTheArgumentsAlone(t *testing.T) {
	logs, traces := append(badLogs(), someLogs()...), someTraces()
	picksAt := func(i int) []int64 { return anyPicks(i*13%102, int64(i)) }
	var before [][]string
	for i, c := range logs {
		before = append(before, logAnswers(c, traces[i%len(traces)], picksAt(i)))
	}
	for range 20 {
		for i := len(logs) - 1; i >= 0; i-- {
			if after := logAnswers(logs[i], traces[i%len(traces)], picksAt(i)); !slices.Equal(after, before[i]) {
				t.Fatalf("the answers about log %d are %v, and were %v", i, after, before[i])
			}
		}
	}
}
