package tests

import (
	"fmt"
	"maps"
	"math"
	"slices"
	"testing"

	"loop.example/g00800/impl"
)

func loads(addr int64) impl.Op {
	return impl.Op{Kind: impl.KindLoad, Addr: addr}
}

func stores(addr int64, value int64) impl.Op {
	return impl.Op{Kind: impl.KindStore, Addr: addr, Value: value}
}

func shared(addr int64, value int64) impl.Line {
	return impl.Line{State: impl.LineShared, Addr: addr, Value: value}
}

func modified(addr int64, value int64) impl.Line {
	return impl.Line{State: impl.LineModified, Addr: addr, Value: value}
}

// cellsOf are cells of numbers that stand in pairs: an Addr, and its Value.
func cellsOf(numbers ...int64) []impl.Cell {
	var cells []impl.Cell
	for i := 0; i < len(numbers); i += 2 {
		cells = append(cells, impl.Cell{Addr: numbers[i], Value: numbers[i+1]})
	}
	return cells
}

// risingCells are so many cells of the Addrs from first on, 3 from one to the
// next one.
func risingCells(size int, first int64) []impl.Cell {
	var cells []impl.Cell
	for i := range int64(size) {
		cells = append(cells, impl.Cell{Addr: first + 3*i, Value: 100 + i})
	}
	return cells
}

func machineOf(memory []impl.Cell, caches ...[]impl.Line) impl.Machine {
	return impl.Machine{Caches: caches, Memory: memory}
}

func cloneMachine(m impl.Machine) impl.Machine {
	out := impl.Machine{Caches: make([][]impl.Line, len(m.Caches)), Memory: slices.Clone(m.Memory)}
	for core, list := range m.Caches {
		out.Caches[core] = slices.Clone(list)
	}
	return out
}

func alikeMachines(a impl.Machine, b impl.Machine) bool {
	sameLines := func(a []impl.Line, b []impl.Line) bool { return slices.Equal(a, b) }
	return slices.EqualFunc(a.Caches, b.Caches, sameLines) && slices.Equal(a.Memory, b.Memory)
}

func isNoMachine(m impl.Machine) bool {
	return len(m.Caches) == 0 && len(m.Memory) == 0
}

// opFaultByHand follows the words of the document, code by code, as all the
// functions by hand below.
func opFaultByHand(o impl.Op) int64 {
	switch {
	case o.Kind != 0 && o.Kind != 1:
		return impl.ErrForm
	case o.Addr < 0 || o.Addr > 999999 || o.Value < 0 || o.Value > 999999:
		return impl.ErrRange
	case o.Kind == 0 && o.Value != 0:
		return impl.ErrForm
	}
	return impl.OK
}

func programsFaultByHand(programs [][]impl.Op) int64 {
	if len(programs) < 1 || len(programs) > 4 {
		return impl.ErrMany
	}
	for _, ops := range programs {
		if len(ops) > 8 {
			return impl.ErrMany
		}
		for _, o := range ops {
			if code := opFaultByHand(o); code != impl.OK {
				return code
			}
		}
	}
	return impl.OK
}

func machineFaultByHand(m impl.Machine) int64 {
	if len(m.Caches) < 1 || len(m.Caches) > 4 || len(m.Caches[0]) < 1 || len(m.Caches[0]) > 4 || len(m.Memory) > 32 {
		return impl.ErrMany
	}
	for _, list := range m.Caches[1:] {
		if len(list) != len(m.Caches[0]) {
			return impl.ErrMany
		}
	}
	inBounds := func(n int64, least int64) bool { return n >= least && n <= 999999 }
	memory := map[int64]int64{}
	for _, c := range m.Memory {
		if !inBounds(c.Addr, 0) || !inBounds(c.Value, 1) {
			return impl.ErrRange
		}
		memory[c.Addr] = c.Value
	}
	for i := 1; i < len(m.Memory); i++ {
		if m.Memory[i].Addr <= m.Memory[i-1].Addr {
			return impl.ErrForm
		}
	}
	states := map[int64][]int64{}
	agree := true
	for _, list := range m.Caches {
		for place, l := range list {
			switch {
			case l.State < 0 || l.State > 2 || l.State == 0 && (l.Addr != 0 || l.Value != 0):
				return impl.ErrForm
			case !inBounds(l.Addr, 0) || !inBounds(l.Value, 0):
				return impl.ErrRange
			case l.State != 0 && l.Addr%int64(len(list)) != int64(place):
				return impl.ErrForm
			case l.State != 0:
				states[l.Addr] = append(states[l.Addr], l.State)
			}
			agree = agree && (l.State != 1 || l.Value == memory[l.Addr])
		}
	}
	for _, list := range states {
		agree = agree && (len(list) == 1 || !slices.Contains(list, 2))
	}
	if !agree {
		return impl.ErrOrder
	}
	return impl.OK
}

// valueByHand is of a machine without a fault.
func valueByHand(m impl.Machine, addr int64) int64 {
	for _, l := range slices.Concat(m.Caches...) {
		if l.State == 2 && l.Addr == addr {
			return l.Value
		}
	}
	for _, c := range m.Memory {
		if c.Addr == addr {
			return c.Value
		}
	}
	return 0
}

// doneByHand is of a call of DoOp without a fault. The memory is a map here,
// sorted once all is done.
func doneByHand(m impl.Machine, core int64, o impl.Op) impl.MachineResult {
	m = cloneMachine(m)
	memory := map[int64]int64{}
	for _, c := range m.Memory {
		memory[c.Addr] = c.Value
	}
	place := o.Addr % int64(len(m.Caches[core]))
	own := &m.Caches[core][place]
	if own.State == 0 || own.Addr != o.Addr {
		if own.State == 2 {
			memory[own.Addr] = own.Value
		}
		*own = impl.Line{}
	}
	for other := range m.Caches {
		l := &m.Caches[other][place]
		if int64(other) == core || l.State == 0 || l.Addr != o.Addr {
			continue
		}
		if o.Kind == 0 && own.State == 0 && l.State == 2 {
			memory[l.Addr] = l.Value
			l.State = 1
		}
		if o.Kind == 1 && own.State != 2 {
			if l.State == 2 {
				memory[l.Addr] = l.Value
			}
			*l = impl.Line{}
		}
	}
	switch {
	case o.Kind == 1:
		*own = impl.Line{State: 2, Addr: o.Addr, Value: o.Value}
	case own.State == 0:
		*own = impl.Line{State: 1, Addr: o.Addr, Value: memory[o.Addr]}
	}
	m.Memory = nil
	for _, addr := range slices.Sorted(maps.Keys(memory)) {
		if memory[addr] != 0 {
			m.Memory = append(m.Memory, impl.Cell{Addr: addr, Value: memory[addr]})
		}
	}
	return impl.MachineResult{Machine: m, Value: own.Value}
}

func newByHand(cores int, lines int64) impl.Machine {
	var m impl.Machine
	for range cores {
		m.Caches = append(m.Caches, make([]impl.Line, lines))
	}
	return m
}

func eventsByHand(programs [][]impl.Op) [][]impl.Event {
	var cores [][]impl.Event
	for _, ops := range programs {
		var list []impl.Event
		for _, o := range ops {
			list = append(list, impl.Event{Kind: o.Kind, Addr: o.Addr, Value: o.Value})
		}
		cores = append(cores, list)
	}
	return cores
}

// simulatedByHand is of programs, lines and picks without a fault.
func simulatedByHand(programs [][]impl.Op, lines int64, picks []int64) impl.SimResult {
	m := newByHand(len(programs), lines)
	var log []impl.Step
	for _, s := range mergedByHand(eventsByHand(programs), picks) {
		done := doneByHand(m, s.Core, impl.Op{Kind: s.Event.Kind, Addr: s.Event.Addr, Value: s.Event.Value})
		m = done.Machine
		log = append(log, impl.Step{Core: s.Core, Event: impl.Event{Kind: s.Event.Kind, Addr: s.Event.Addr, Value: done.Value}})
	}
	return impl.SimResult{Log: log, Machine: m}
}

// oneMemory is the log of one memory without any caches.
func oneMemory(programs [][]impl.Op, picks []int64) []impl.Step {
	memory := map[int64]int64{}
	log := mergedByHand(eventsByHand(programs), picks)
	for i, s := range log {
		if s.Event.Kind == impl.KindStore {
			memory[s.Event.Addr] = s.Event.Value
		}
		log[i].Event.Value = memory[s.Event.Addr]
	}
	return log
}

func wantNoDeed(t *testing.T, name string, m impl.Machine, core int64, o impl.Op, code int64) {
	t.Helper()
	if got := impl.DoOp(m, core, o); got.Code != code || !isNoMachine(got.Machine) || got.Value != 0 {
		t.Errorf("%s: DoOp(%v, %d, %v) is %+v, not code %d alone", name, m, core, o, got, code)
	}
}

func wantDeed(t *testing.T, name string, m impl.Machine, core int64, o impl.Op, want impl.MachineResult) {
	t.Helper()
	if got := impl.DoOp(m, core, o); got.Code != impl.OK || got.Value != want.Value || !alikeMachines(got.Machine, want.Machine) {
		t.Fatalf("%s: DoOp(%v, %d, %v) is %+v, not %+v", name, m, core, o, got, want)
	}
}

func wantValueAt(t *testing.T, name string, m impl.Machine, addr int64, want impl.IntResult) {
	t.Helper()
	if got := impl.ValueAt(m, addr); got != want {
		t.Errorf("%s: ValueAt(%v, %d) is %+v, not %+v", name, m, addr, got, want)
	}
}

// wantMachineFault asks MachineFault, and the two functions that tell its code
// ahead of any other.
func wantMachineFault(t *testing.T, name string, m impl.Machine, code int64) {
	t.Helper()
	wantCode(t, fmt.Sprintf("%s: MachineFault of %d caches and %d cells", name, len(m.Caches), len(m.Memory)), impl.MachineFault(m), code)
	if code == impl.OK {
		wantValueAt(t, name, m, 0, impl.IntResult{Value: valueByHand(m, 0)})
		return
	}
	for _, addr := range []int64{0, 999999, -1, 1000000} {
		wantValueAt(t, name, m, addr, impl.IntResult{Code: code})
	}
	for _, core := range []int64{0, 1, -1, 4, math.MaxInt64} {
		for _, o := range []impl.Op{loads(0), stores(0, 1), {Kind: 2}, loads(-1), {Value: 1}} {
			wantNoDeed(t, name, m, core, o, code)
		}
	}
}

func wantSimulated(t *testing.T, name string, programs [][]impl.Op, lines int64, picks []int64, want impl.SimResult) {
	t.Helper()
	got := impl.Simulate(programs, lines, picks)
	if got.Code != impl.OK || !slices.Equal(got.Log, want.Log) || !alikeMachines(got.Machine, want.Machine) {
		t.Fatalf("%s: Simulate(%v, %d, %v) is %+v, not %+v", name, programs, lines, picks, got, want)
	}
}

func wantNoSim(t *testing.T, name string, programs [][]impl.Op, lines int64, picks []int64, code int64) {
	t.Helper()
	if got := impl.Simulate(programs, lines, picks); got.Code != code || len(got.Log) != 0 || !isNoMachine(got.Machine) {
		t.Errorf("%s: Simulate of %d programs, %d lines and %d picks is %+v, not code %d alone", name, len(programs), lines, len(picks), got, code)
	}
}

func TestMachineConstants(t *testing.T) {
	got := []int64{impl.LineInvalid, impl.LineShared, impl.LineModified, impl.MaxLines}
	if want := []int64{0, 1, 2, 4}; !slices.Equal(got, want) {
		t.Errorf("the constants are %v, not %v", got, want)
	}
}

// beyond are numbers that neither an Addr nor a Value may be.
func beyond() []int64 {
	return []int64{-1, -2, -999999, 1000000, 1000001, 1 << 31, 1 << 32, 1<<32 + 5, math.MinInt64, math.MinInt64 + 1, math.MaxInt64}
}

func TestOpFault(t *testing.T) {
	for _, addr := range []int64{0, 1, 31, 999998, 999999} {
		wantCode(t, "a load", impl.OpFault(loads(addr)), impl.OK)
		for _, value := range []int64{0, 1, 300, 999998, 999999} {
			wantCode(t, "a store", impl.OpFault(stores(addr, value)), impl.OK)
			code := int64(impl.ErrForm)
			if value == 0 {
				code = impl.OK
			}
			wantCode(t, fmt.Sprint("a load with the Value ", value), impl.OpFault(impl.Op{Addr: addr, Value: value}), code)
		}
	}
	for e, code := range faultyEvents() {
		wantCode(t, fmt.Sprintf("OpFault(%+v)", e), impl.OpFault(impl.Op{Kind: e.Kind, Addr: e.Addr, Value: e.Value}), code)
	}
}

// The fault of the event is told ahead of that of a load with a Value.
func TestAnOpIsAskedAsAnEventFirst(t *testing.T) {
	for _, n := range beyond() {
		wantCode(t, "a load with a Value beyond", impl.OpFault(impl.Op{Value: n}), impl.ErrRange)
		wantCode(t, "a load beyond, with a Value", impl.OpFault(impl.Op{Addr: n, Value: 5}), impl.ErrRange)
		wantCode(t, "a load beyond in both", impl.OpFault(impl.Op{Addr: n, Value: n}), impl.ErrRange)
		wantCode(t, "a store beyond", impl.OpFault(stores(n, 0)), impl.ErrRange)
		wantCode(t, "a store of a Value beyond", impl.OpFault(stores(0, n)), impl.ErrRange)
		for _, kind := range []int64{-1, 2, 3, 256, math.MinInt64, math.MaxInt64} {
			wantCode(t, "no kind, and beyond", impl.OpFault(impl.Op{Kind: kind, Addr: n, Value: n}), impl.ErrForm)
			wantCode(t, "no kind, and a Value", impl.OpFault(impl.Op{Kind: kind, Value: 5}), impl.ErrForm)
			wantCode(t, "no kind", impl.OpFault(impl.Op{Kind: kind}), impl.ErrForm)
		}
	}
}

// faultyOps are ops with a fault, each with its code.
func faultyOps() map[impl.Op]int64 {
	return map[impl.Op]int64{
		{Kind: 2}:                     impl.ErrForm,
		{Kind: -1, Addr: -1}:          impl.ErrForm,
		loads(-1):                     impl.ErrRange,
		loads(1000000):                impl.ErrRange,
		stores(0, -1):                 impl.ErrRange,
		stores(0, 1000000):            impl.ErrRange,
		{Value: 1}:                    impl.ErrForm,
		{Addr: 999999, Value: 999999}: impl.ErrForm,
		{Value: 1000000}:              impl.ErrRange,
		{Addr: -1, Value: 1}:          impl.ErrRange,
	}
}

func manyOps(count int, o impl.Op) []impl.Op {
	return slices.Repeat([]impl.Op{o}, count)
}

func TestProgramsAreOf1To4Cores(t *testing.T) {
	for count := range 9 {
		code := int64(impl.ErrMany)
		if count >= 1 && count <= 4 {
			code = impl.OK
		}
		wantCode(t, fmt.Sprint(count, " cores without ops"), impl.ProgramsFault(make([][]impl.Op, count)), code)
		full := slices.Repeat([][]impl.Op{manyOps(8, stores(999999, 999999))}, count)
		wantCode(t, fmt.Sprint(count, " cores of 8 ops"), impl.ProgramsFault(full), code)
		if count > 4 {
			for o := range faultyOps() {
				full[0], full[count-1] = []impl.Op{o}, []impl.Op{o}
				wantCode(t, "too many cores, and an op with a fault", impl.ProgramsFault(full), impl.ErrMany)
			}
		}
	}
	wantCode(t, "nil", impl.ProgramsFault(nil), impl.ErrMany)
	wantCode(t, "many", impl.ProgramsFault(make([][]impl.Op, 100000)), impl.ErrMany)
	room := make([][]impl.Op, 6)
	wantCode(t, "room behind", impl.ProgramsFault(room[:2]), impl.OK)
}

func TestAProgramHas8OpsAtMost(t *testing.T) {
	for count := 1; count <= 4; count++ {
		for core := range count {
			programs := make([][]impl.Op, count)
			for size := range 20 {
				programs[core] = manyOps(size, loads(7))
				code := int64(impl.OK)
				if size > 8 {
					code = impl.ErrMany
				}
				wantCode(t, fmt.Sprint(size, " ops of core ", core), impl.ProgramsFault(programs), code)
			}
			programs[core] = make([]impl.Op, 8, 100)
			wantCode(t, "room behind", impl.ProgramsFault(programs), impl.OK)
			for o, code := range faultyOps() {
				programs[core] = append(manyOps(8, loads(7)), o)
				wantCode(t, "nine, the last one with a fault", impl.ProgramsFault(programs), impl.ErrMany)
				programs[core] = append([]impl.Op{o}, manyOps(8, loads(7))...)
				wantCode(t, "nine, the first one with a fault", impl.ProgramsFault(programs), impl.ErrMany)
				programs[core] = append([]impl.Op{o}, manyOps(7, loads(7))...)
				wantCode(t, "eight, the first one with a fault", impl.ProgramsFault(programs), code)
				programs[core] = append(manyOps(7, loads(7)), o)
				wantCode(t, "eight, the last one with a fault", impl.ProgramsFault(programs), code)
			}
		}
	}
}

// Core by core, and op by op: all of an earlier one is asked ahead of a later
// one, how many ops it has, too.
func TestTheFirstProgramWithAFaultIsTold(t *testing.T) {
	bad := map[string][]impl.Op{
		"nine":   manyOps(9, loads(0)),
		"form":   {loads(0), {Value: 1}},
		"kind":   {{Kind: 2}},
		"beyond": {loads(0), stores(1, 1), loads(-1)},
		"both":   {stores(0, 1000000), {Kind: 2}},
		"other":  {{Value: 1}, stores(0, 1000000)},
	}
	codes := map[string]int64{"nine": impl.ErrMany, "form": impl.ErrForm, "kind": impl.ErrForm, "beyond": impl.ErrRange, "both": impl.ErrRange, "other": impl.ErrForm}
	for first, ops := range bad {
		for second, later := range bad {
			for at := range 4 {
				for behind := at + 1; behind < 4; behind++ {
					programs := [][]impl.Op{{loads(1)}, nil, manyOps(8, stores(2, 2)), {loads(2)}}
					programs[at], programs[behind] = ops, later
					wantCode(t, first+" ahead of "+second, impl.ProgramsFault(programs), codes[first])
				}
			}
		}
	}
}

func TestProgramsFaultOfAnyOps(t *testing.T) {
	kinds, numbers := []int64{0, 1, 1, 0, 1, 0, 1, 2}, []int64{0, 0, 5, 999999, 0, 7, 0, 1000000, -1}
	for seed := range int64(20000) {
		programs := make([][]impl.Op, seed%7)
		for core := range programs {
			for _, n := range numbersOf(int(numbersOf(1, 30, seed*5+int64(core))[0])%10, 1000000, seed*7+int64(core)) {
				o := impl.Op{Kind: kinds[n%8], Addr: numbers[n/10%9], Value: numbers[n/100%9]}
				if seed%3 > 0 && opFaultByHand(o) != impl.OK {
					o = loads(n)
				}
				programs[core] = append(programs[core], o)
			}
		}
		wantCode(t, fmt.Sprint("ProgramsFault of ", programs), impl.ProgramsFault(programs), programsFaultByHand(programs))
	}
}

type machineCase struct {
	name string
	m    impl.Machine
}

// someMachines are machines without a fault: without anything, with lines of
// each state, with Values of 0, full, and such as come of what programs do.
func someMachines() []machineCase {
	no := impl.Line{}
	machines := []machineCase{
		{"one line", machineOf(nil, []impl.Line{no})},
		{"a cell", machineOf(cellsOf(3, 5), []impl.Line{no})},
		{"shared", machineOf(cellsOf(3, 5), []impl.Line{shared(3, 5)})},
		{"shared, and no cell", machineOf(nil, []impl.Line{shared(3, 0)})},
		{"shared at 0, and no cell", machineOf(nil, []impl.Line{shared(0, 0)}, []impl.Line{no})},
		{"shared by all", machineOf(cellsOf(0, 1, 3, 5), []impl.Line{shared(3, 5)}, []impl.Line{shared(3, 5)}, []impl.Line{shared(3, 5)}, []impl.Line{shared(3, 5)})},
		{"shared at 0 by all, and no cell", machineOf(nil, []impl.Line{shared(0, 0)}, []impl.Line{shared(0, 0)}, []impl.Line{shared(0, 0)})},
		{"modified", machineOf(nil, []impl.Line{modified(3, 5)}, []impl.Line{no})},
		{"modified at 0 ahead of invalid", machineOf(nil, []impl.Line{modified(0, 5)}, []impl.Line{no}, []impl.Line{no})},
		{"modified at 0 behind invalid", machineOf(nil, []impl.Line{no}, []impl.Line{modified(0, 5)})},
		{"modified over a cell", machineOf(cellsOf(3, 5), []impl.Line{no}, []impl.Line{modified(3, 6)})},
		{"modified to 0 over a cell", machineOf(cellsOf(3, 5), []impl.Line{modified(3, 0)}, []impl.Line{no})},
		{"modified to 0, and no cell", machineOf(nil, []impl.Line{modified(3, 0)}, []impl.Line{no})},
		{"modified as the cell", machineOf(cellsOf(3, 5), []impl.Line{modified(3, 5)}, []impl.Line{no})},
		{"modified, another one each", machineOf(cellsOf(3, 5), []impl.Line{modified(3, 6)}, []impl.Line{modified(4, 6)}, []impl.Line{modified(5, 6)}, []impl.Line{modified(0, 6)})},
		{"two lines", machineOf(cellsOf(1, 10, 4, 40, 7, 70), []impl.Line{shared(4, 40), shared(1, 10)}, []impl.Line{modified(6, 60), shared(1, 10)}, []impl.Line{no, modified(9, 90)})},
		{"three lines", machineOf(cellsOf(2, 20, 5, 50, 8, 80), []impl.Line{no, modified(4, 44), shared(5, 50)}, []impl.Line{shared(0, 0), no, shared(2, 20)})},
		{"four lines at the edges", machineOf(cellsOf(0, 1, 999996, 999999, 999999, 999999), []impl.Line{shared(0, 1), no, no, shared(999999, 999999)}, []impl.Line{modified(999996, 0), shared(1, 0), modified(999998, 999999), no})},
		{"one core of four lines", machineOf(cellsOf(1, 1), []impl.Line{modified(4, 0), shared(5, 0), no, modified(3, 999999)})},
		{"30 cells", machineOf(risingCells(30, 1), []impl.Line{modified(500, 1)}, []impl.Line{modified(0, 1)})},
		{"31 cells", machineOf(risingCells(31, 1), []impl.Line{modified(500, 1)}, []impl.Line{modified(0, 1)})},
		{"32 cells", machineOf(risingCells(32, 0), []impl.Line{shared(0, 100), no}, []impl.Line{modified(6, 1), shared(3, 101)})},
	}
	for seed := range int64(48) {
		cores, lines := int(seed%4)+1, seed/4%4+1
		m := simulatedByHand(anyPrograms(cores, 5, seed), lines, nil).Machine
		machines = append(machines, machineCase{fmt.Sprint("after programs ", seed), m})
	}
	return machines
}

// anyPrograms are of so many cores, of the Addrs from 0 to addrs - 1, with many
// stores of 0, the same at each call.
func anyPrograms(cores int, addrs int64, seed int64) [][]impl.Op {
	var programs [][]impl.Op
	for core := range cores {
		var ops []impl.Op
		size := int(numbersOf(1, 13, seed*4+int64(core))[0])
		for _, n := range numbersOf(min(size, 8), 1000000, seed*9+int64(core)) {
			o := stores(n/10%addrs, n/1000%4)
			if n%2 == 0 {
				o = loads(n / 10 % addrs)
			}
			ops = append(ops, o)
		}
		programs = append(programs, ops)
	}
	return programs
}

func TestMachinesWithoutAFault(t *testing.T) {
	for _, c := range someMachines() {
		wantMachineFault(t, c.name, c.m, impl.OK)
		if code := machineFaultByHand(c.m); code != impl.OK {
			t.Errorf("%s: by hand the code is %d", c.name, code)
		}
	}
}

func TestAMachineHas1To4CachesOf1To4Lines(t *testing.T) {
	for cores := range 8 {
		for lines := range int64(8) {
			code := int64(impl.ErrMany)
			if cores >= 1 && cores <= 4 && lines >= 1 && lines <= 4 {
				code = impl.OK
			}
			wantMachineFault(t, fmt.Sprint(cores, " caches of ", lines, " lines"), newByHand(cores, lines), code)
		}
	}
	wantMachineFault(t, "nothing", impl.Machine{}, impl.ErrMany)
	wantMachineFault(t, "a cell alone", impl.Machine{Memory: cellsOf(1, 1)}, impl.ErrMany)
	wantMachineFault(t, "caches without lines", impl.Machine{Caches: make([][]impl.Line, 2)}, impl.ErrMany)
	wantMachineFault(t, "many caches", impl.Machine{Caches: make([][]impl.Line, 100000)}, impl.ErrMany)
	wantMachineFault(t, "many lines", machineOf(nil, make([]impl.Line, 100000)), impl.ErrMany)
	wantMachineFault(t, "room behind", machineOf(make([]impl.Cell, 40)[:0], make([]impl.Line, 9)[:4], make([]impl.Line, 9)[:4]), impl.OK)
}

func TestAllCachesHaveAsManyLines(t *testing.T) {
	for cores := 2; cores <= 4; cores++ {
		for at := range cores {
			for lines := int64(1); lines <= 4; lines++ {
				for other := range int64(7) {
					m := newByHand(cores, lines)
					m.Caches[at] = make([]impl.Line, other)
					code := int64(impl.ErrMany)
					if other == lines {
						code = impl.OK
					}
					wantMachineFault(t, fmt.Sprint("cache ", at, " of ", cores, " has ", other, " lines, not ", lines), m, code)
				}
			}
		}
	}
}

func TestAMemoryHas32CellsAtMost(t *testing.T) {
	for size := range 40 {
		code := int64(impl.ErrMany)
		if size <= 32 {
			code = impl.OK
		}
		wantMachineFault(t, fmt.Sprint(size, " cells"), machineOf(risingCells(size, 0), []impl.Line{{}}), code)
		if size > 32 {
			wantMachineFault(t, fmt.Sprint(size, " cells with faults"), machineOf(make([]impl.Cell, size), []impl.Line{{}}), impl.ErrMany)
		}
	}
	wantMachineFault(t, "many cells", machineOf(make([]impl.Cell, 100000), []impl.Line{{}}), impl.ErrMany)
}

func TestTheAddrAndTheValueOfACellAreInBounds(t *testing.T) {
	line := []impl.Line{{}}
	for _, n := range []int64{0, 1, 31, 999998, 999999} {
		wantMachineFault(t, "an Addr in bounds", machineOf(cellsOf(n, 5), line), impl.OK)
		if n > 0 {
			wantMachineFault(t, "a Value in bounds", machineOf(cellsOf(5, n), line), impl.OK)
		}
	}
	for at := range 4 {
		for _, n := range append(beyond(), 0) {
			m := machineOf(cellsOf(0, 5, 7, 5, 9, 5, 999999, 5), line)
			m.Memory[at].Value = n
			wantMachineFault(t, fmt.Sprint("the Value ", n, " of cell ", at), m, impl.ErrRange)
			if n != 0 {
				m.Memory[at] = impl.Cell{Addr: n, Value: 5}
				wantMachineFault(t, fmt.Sprint("the Addr ", n, " of cell ", at), m, impl.ErrRange)
			}
		}
	}
}

func TestCellsRise(t *testing.T) {
	line := []impl.Line{{}}
	for _, addrs := range [][]int64{{0, 1}, {0, 999999}, {999998, 999999}, {5, 6, 7}, {0, 5, 1000}} {
		var memory []impl.Cell
		for _, addr := range addrs {
			memory = append(memory, impl.Cell{Addr: addr, Value: 1000 - addr%10})
		}
		wantMachineFault(t, "rising", machineOf(memory, line), impl.OK)
		slices.Reverse(memory)
		wantMachineFault(t, "falling", machineOf(memory, line), impl.ErrForm)
	}
	for size := 2; size <= 32; size += 5 {
		for at := range size - 1 {
			m := machineOf(risingCells(size, 0), line)
			m.Memory[at+1].Addr = m.Memory[at].Addr
			wantMachineFault(t, fmt.Sprint("cells ", at, " and the next one of ", size, " have one Addr"), m, impl.ErrForm)
			m.Memory[at+1] = m.Memory[at]
			wantMachineFault(t, fmt.Sprint("cells ", at, " and the next one of ", size, " are the same"), m, impl.ErrForm)
			m = machineOf(risingCells(size, 0), line)
			m.Memory[at], m.Memory[at+1] = m.Memory[at+1], m.Memory[at]
			wantMachineFault(t, fmt.Sprint("cell ", at, " and the next one of ", size, " fall"), m, impl.ErrForm)
		}
	}
	// Whether they rise is asked behind the bounds of all cells.
	wantMachineFault(t, "falling, and then a Value of 0", machineOf(cellsOf(7, 1, 5, 1, 9, 0), line), impl.ErrRange)
	wantMachineFault(t, "alike, and then an Addr beyond", machineOf(cellsOf(7, 1, 7, 1, 1000000, 1), line), impl.ErrRange)
	wantMachineFault(t, "falling to below 0", machineOf(cellsOf(7, 1, -1, 1), line), impl.ErrRange)
}

// placeOf is a machine of two cores with so many lines each, all LineInvalid
// but the one at this place of the second core, and with the cell that a
// LineShared one needs.
func placeOf(l impl.Line, place int64, lines int64) impl.Machine {
	m := newByHand(2, lines)
	m.Caches[1][place] = l
	if l.Value > 0 && l.Value <= 999999 && l.Addr >= 0 && l.Addr <= 999999 {
		m.Memory = []impl.Cell{{Addr: l.Addr, Value: l.Value}}
	}
	return m
}

func TestALineIsInvalidSharedOrModified(t *testing.T) {
	for lines := int64(1); lines <= 4; lines++ {
		for place := range lines {
			for _, state := range []int64{-1, 3, 4, -2, 255, 256, 257, 258, 1 << 32, 1<<32 + 1, math.MinInt64, math.MaxInt64} {
				wantMachineFault(t, "no state", placeOf(impl.Line{State: state}, place, lines), impl.ErrForm)
				wantMachineFault(t, "no state, at its place", placeOf(impl.Line{State: state, Addr: place, Value: 5}, place, lines), impl.ErrForm)
				wantMachineFault(t, "no state, and beyond", placeOf(impl.Line{State: state, Addr: -1, Value: 1000000}, place, lines), impl.ErrForm)
				wantMachineFault(t, "no state, not at its place", placeOf(impl.Line{State: state, Addr: place + 1, Value: 5}, place, lines), impl.ErrForm)
			}
			wantMachineFault(t, "invalid", placeOf(impl.Line{}, place, lines), impl.OK)
			for _, n := range append(beyond(), 1, 2, 3, 4, 5, 12, 999999) {
				wantMachineFault(t, "invalid with an Addr", placeOf(impl.Line{Addr: n}, place, lines), impl.ErrForm)
				wantMachineFault(t, "invalid with a Value", placeOf(impl.Line{Value: n}, place, lines), impl.ErrForm)
				wantMachineFault(t, "invalid with both", placeOf(impl.Line{Addr: n, Value: n}, place, lines), impl.ErrForm)
			}
		}
	}
}

func TestTheAddrAndTheValueOfALineAreInBounds(t *testing.T) {
	for lines := int64(1); lines <= 4; lines++ {
		for _, state := range []int64{impl.LineShared, impl.LineModified} {
			for _, addr := range []int64{0, 1, 2, 3, 999996, 999997, 999998, 999999} {
				for _, value := range []int64{0, 1, 999998, 999999} {
					l := impl.Line{State: state, Addr: addr, Value: value}
					for place := range lines {
						code := int64(impl.ErrForm)
						if addr%lines == place {
							code = impl.OK
						}
						wantMachineFault(t, fmt.Sprint("in bounds, at the place ", place, " of ", lines), placeOf(l, place, lines), code)
					}
				}
			}
			for _, n := range beyond() {
				for place := range lines {
					wantMachineFault(t, "an Addr beyond", placeOf(impl.Line{State: state, Addr: n}, place, lines), impl.ErrRange)
					wantMachineFault(t, "a Value beyond", placeOf(impl.Line{State: state, Addr: place, Value: n}, place, lines), impl.ErrRange)
					wantMachineFault(t, "both beyond", placeOf(impl.Line{State: state, Addr: n, Value: n}, place, lines), impl.ErrRange)
					wantMachineFault(t, "a Value beyond, not at its place", placeOf(impl.Line{State: state, Addr: place + 1, Value: n}, place, lines), impl.ErrRange)
				}
			}
		}
	}
}

// Each line is asked all three codes ahead of the next one, and each core all
// of its lines.
func TestTheFirstLineWithAFaultIsTold(t *testing.T) {
	bad := []struct {
		l    impl.Line
		code int64
	}{
		{impl.Line{State: 3}, impl.ErrForm},
		{impl.Line{State: -1, Addr: -1}, impl.ErrForm},
		{impl.Line{Value: 1}, impl.ErrForm},
		{shared(1000000, 0), impl.ErrRange},
		{modified(4, -1), impl.ErrRange},
		{shared(3, 0), impl.ErrForm},
		{modified(3, 0), impl.ErrForm},
	}
	for _, first := range bad {
		for _, second := range bad {
			for at := range 6 {
				for behind := at + 1; behind < 6; behind++ {
					m := newByHand(3, 2)
					// Of the Addrs above, 3 has no business at place 0, nor 4 at place 1.
					turned := func(l impl.Line, place int) impl.Line {
						if place%2 == 1 && l.Addr == 3 {
							l.Addr = 4
						}
						return l
					}
					m.Caches[at/2][at%2], m.Caches[behind/2][behind%2] = turned(first.l, at), turned(second.l, behind)
					wantMachineFault(t, fmt.Sprint(first.l, " at ", at, " and ", second.l, " at ", behind), m, first.code)
				}
			}
		}
	}
}

func TestOneLineAloneIsModified(t *testing.T) {
	for cores := 2; cores <= 4; cores++ {
		for lines := int64(1); lines <= 4; lines++ {
			for first := range cores {
				for second := range cores {
					if first == second {
						continue
					}
					addr := 2*lines + lines - 1
					m := newByHand(cores, lines)
					m.Memory = []impl.Cell{{Addr: addr, Value: 5}}
					m.Caches[first][lines-1], m.Caches[second][lines-1] = shared(addr, 5), shared(addr, 5)
					wantMachineFault(t, "two shared", m, impl.OK)
					for _, value := range []int64{0, 5, 6} {
						m.Caches[first][lines-1] = modified(addr, value)
						wantMachineFault(t, fmt.Sprint("modified by ", first, ", shared by ", second), m, impl.ErrOrder)
						m.Caches[second][lines-1] = modified(addr, value)
						wantMachineFault(t, fmt.Sprint("modified by ", first, " and ", second), m, impl.ErrOrder)
						m.Caches[second][lines-1] = modified(addr+lines, value)
						wantMachineFault(t, fmt.Sprint("modified by ", first, ", another Addr by ", second), m, impl.OK)
						m.Caches[second][lines-1] = impl.Line{}
						wantMachineFault(t, fmt.Sprint("modified by ", first, " alone"), m, impl.OK)
						m.Caches[second][lines-1] = shared(addr, 5)
					}
				}
			}
		}
	}
	// The Addr of a LineInvalid line is 0, and it is none of that Addr.
	wantMachineFault(t, "modified at 0, and invalid", machineOf(nil, []impl.Line{{}}, []impl.Line{modified(0, 5)}, []impl.Line{{}}), impl.OK)
	wantMachineFault(t, "modified by the first one of three", machineOf(nil, []impl.Line{modified(1, 0)}, []impl.Line{{}}, []impl.Line{shared(1, 0)}), impl.ErrOrder)
}

func TestASharedLineHasTheValueOfTheMemory(t *testing.T) {
	memories := [][]impl.Cell{nil, cellsOf(4, 9), cellsOf(6, 9), cellsOf(4, 9, 6, 8), cellsOf(5, 7), cellsOf(4, 9, 5, 7), cellsOf(5, 7, 6, 8), cellsOf(0, 3, 4, 9, 5, 7, 6, 8)}
	for i, memory := range memories {
		has := int64(0)
		if i >= 4 {
			has = 7
		}
		for value := range int64(10) {
			code := int64(impl.ErrOrder)
			if value == has {
				code = impl.OK
			}
			for core := range 3 {
				m := newByHand(3, 2)
				m.Memory = memory
				m.Caches[core][1] = shared(5, value)
				wantMachineFault(t, fmt.Sprint("the Value ", value, " over ", memory), m, code)
				m.Caches[(core+1)%3][1] = shared(5, has)
				wantMachineFault(t, fmt.Sprint("the Values ", value, " and ", has, " over ", memory), m, code)
				m.Caches[(core+1)%3][1], m.Caches[core][1] = impl.Line{}, modified(5, value)
				wantMachineFault(t, fmt.Sprint("modified to ", value, " over ", memory), m, impl.OK)
			}
		}
	}
	wantMachineFault(t, "shared at 0 with a Value, and no cell", machineOf(nil, []impl.Line{shared(0, 1)}), impl.ErrOrder)
	wantMachineFault(t, "shared at the edge", machineOf(cellsOf(999999, 999999), []impl.Line{shared(999999, 999998)}), impl.ErrOrder)
}

// turnedMachines are ways to put a fault into a machine of 3 caches of 2 lines
// that has none. They stand in the order in which their faults are asked,
// those of one rank at once.
func turnedMachines() []struct {
	name string
	rank int
	code int64
	turn func(m *impl.Machine)
} {
	return []struct {
		name string
		rank int
		code int64
		turn func(m *impl.Machine)
	}{
		{"no caches", 0, impl.ErrMany, func(m *impl.Machine) { m.Caches = nil }},
		{"five caches", 0, impl.ErrMany, func(m *impl.Machine) { m.Caches = slices.Repeat(m.Caches[:1], 5) }},
		{"no lines", 0, impl.ErrMany, func(m *impl.Machine) { m.Caches = make([][]impl.Line, 3) }},
		{"five lines", 0, impl.ErrMany, func(m *impl.Machine) {
			for core := range m.Caches {
				m.Caches[core] = append(m.Caches[core], make([]impl.Line, 3)...)
			}
		}},
		{"one line less", 0, impl.ErrMany, func(m *impl.Machine) { m.Caches[2] = m.Caches[2][:1] }},
		{"one line more", 0, impl.ErrMany, func(m *impl.Machine) { m.Caches[1] = append(m.Caches[1], impl.Line{}) }},
		{"33 cells", 0, impl.ErrMany, func(m *impl.Machine) { m.Memory = append(m.Memory, risingCells(30, 10)...) }},
		{"an Addr of a cell below 0", 1, impl.ErrRange, func(m *impl.Machine) { m.Memory[0].Addr = -1 }},
		{"an Addr of a cell beyond", 1, impl.ErrRange, func(m *impl.Machine) { m.Memory[2].Addr = 1000000 }},
		{"a cell of 0", 1, impl.ErrRange, func(m *impl.Machine) { m.Memory[2].Value = 0 }},
		{"two cells of one Addr", 2, impl.ErrForm, func(m *impl.Machine) { m.Memory[1].Addr = m.Memory[0].Addr }},
		{"no state", 3, impl.ErrForm, func(m *impl.Machine) { m.Caches[0][0].State = 3 }},
		{"a line beyond", 4, impl.ErrRange, func(m *impl.Machine) { m.Caches[0][1].Value = 1000000 }},
		{"not at its place", 5, impl.ErrForm, func(m *impl.Machine) { m.Caches[1][0].Addr = 7 }},
		{"an Addr of a line beyond", 6, impl.ErrRange, func(m *impl.Machine) { m.Caches[1][1].Addr = -1 }},
		{"invalid with a Value", 7, impl.ErrForm, func(m *impl.Machine) { m.Caches[2][0].Value = 1 }},
		{"modified, and shared by others", 8, impl.ErrOrder, func(m *impl.Machine) { m.Caches[2][1] = modified(1, 10) }},
		{"shared, and other than the memory", 8, impl.ErrOrder, func(m *impl.Machine) { m.Caches[2][1] = shared(9, 90) }},
		{"shared, and the cell is another one", 8, impl.ErrOrder, func(m *impl.Machine) { m.Memory[2].Value, m.Caches[2][1] = 71, shared(7, 70) }},
	}
}

func TestTheFirstOfTwoFaultsIsTold(t *testing.T) {
	no := impl.Line{}
	base := machineOf(cellsOf(1, 10, 4, 40, 7, 70), []impl.Line{shared(4, 40), shared(1, 10)}, []impl.Line{modified(6, 60), shared(1, 10)}, []impl.Line{no, modified(9, 90)})
	wantMachineFault(t, "no fault", base, impl.OK)
	for _, first := range turnedMachines() {
		m := cloneMachine(base)
		first.turn(&m)
		wantMachineFault(t, first.name, m, first.code)
		for _, second := range turnedMachines() {
			if second.rank <= first.rank {
				continue
			}
			m := cloneMachine(base)
			second.turn(&m)
			first.turn(&m)
			wantMachineFault(t, first.name+", and "+second.name, m, first.code)
		}
	}
}

// wildMachine is one of few numbers, so that what is asked last is come to,
// and with a fault of any kind now and then.
func wildMachine(seed int64) impl.Machine {
	rolls := numbersOf(80, 1000000, seed)
	roll := func(count int64) int64 {
		n := rolls[0]
		rolls = rolls[1:]
		return n / 7 % count
	}
	lines := roll(4) + 1
	m := newByHand(int(roll(4))+1, lines)
	for addr := range 2 * lines {
		if roll(3) == 0 {
			m.Memory = append(m.Memory, impl.Cell{Addr: addr, Value: roll(2) + 1})
		}
	}
	for core, list := range m.Caches {
		for place := range list {
			if roll(2) == 0 {
				continue
			}
			m.Caches[core][place] = impl.Line{State: roll(2) + 1, Addr: int64(place) + lines*roll(2), Value: roll(2)}
		}
	}
	edge := []int64{-1, 3, 1000000, 0, 1, 2, 5, 999999}[roll(8)]
	list := m.Caches[roll(int64(len(m.Caches)))]
	switch l := &list[roll(lines)]; roll(14) {
	case 0:
		l.State = edge
	case 1:
		l.Addr = edge
	case 2:
		l.Value = edge
	case 3:
		m.Memory = append(m.Memory, impl.Cell{Addr: edge, Value: 1})
	case 4:
		m.Memory = append(m.Memory, impl.Cell{Addr: 900, Value: edge})
	case 5:
		m.Caches[len(m.Caches)-1] = make([]impl.Line, roll(6))
	}
	return m
}

func TestMachineFaultOfAnyMachines(t *testing.T) {
	met := map[int64]int{}
	for seed := range int64(60000) {
		m := wildMachine(seed)
		code := machineFaultByHand(m)
		met[code]++
		if got := impl.MachineFault(m); got != code {
			t.Fatalf("MachineFault(%v) is %d, not %d", m, got, code)
		}
	}
	for _, code := range []int64{impl.OK, impl.ErrMany, impl.ErrRange, impl.ErrForm, impl.ErrOrder} {
		if met[code] < 500 {
			t.Errorf("the code %d is met %d times", code, met[code])
		}
	}
}

func TestNewMachine(t *testing.T) {
	bad := append(beyond(), 0, 5, 6, 256, 257)
	for cores := int64(1); cores <= 4; cores++ {
		for lines := int64(1); lines <= 4; lines++ {
			got := impl.NewMachine(cores, lines)
			if got.Code != impl.OK || got.Value != 0 || !alikeMachines(got.Machine, newByHand(int(cores), lines)) {
				t.Errorf("NewMachine(%d, %d) is %+v", cores, lines, got)
			}
			wantMachineFault(t, "a new machine", got.Machine, impl.OK)
		}
		for _, n := range bad {
			for _, call := range [][2]int64{{n, cores}, {cores, n}, {n, n}} {
				if got := impl.NewMachine(call[0], call[1]); got.Code != impl.ErrRange || got.Value != 0 || !isNoMachine(got.Machine) {
					t.Errorf("NewMachine(%d, %d) is %+v, not ErrRange alone", call[0], call[1], got)
				}
			}
		}
	}
}

func TestValueAtOfTheDocument(t *testing.T) {
	no := impl.Line{}
	m := machineOf(cellsOf(1, 10, 4, 40, 6, 66, 7, 70, 8, 80), []impl.Line{shared(4, 40), shared(1, 10)}, []impl.Line{modified(6, 60), shared(3, 0)}, []impl.Line{modified(8, 0), modified(9, 90)})
	for addr, value := range map[int64]int64{4: 40, 1: 10, 3: 0, 6: 60, 9: 90, 8: 0, 7: 70, 0: 0, 2: 0, 5: 0, 10: 0, 999999: 0} {
		wantValueAt(t, "some lines and cells", m, addr, impl.IntResult{Value: value})
	}
	edges := machineOf(cellsOf(0, 3, 999999, 4), []impl.Line{no, no})
	wantValueAt(t, "a cell at 0", edges, 0, impl.IntResult{Value: 3})
	wantValueAt(t, "a cell at the edge", edges, 999999, impl.IntResult{Value: 4})
	wantValueAt(t, "ahead of the edge", edges, 999998, impl.IntResult{})
	edges = machineOf(nil, []impl.Line{no, modified(999999, 7)}, []impl.Line{modified(0, 8), no})
	wantValueAt(t, "modified at 0, and invalid lines", edges, 0, impl.IntResult{Value: 8})
	wantValueAt(t, "modified at the edge", edges, 999999, impl.IntResult{Value: 7})
	wantValueAt(t, "nowhere", machineOf(nil, []impl.Line{no}), 0, impl.IntResult{})
}

func TestValueAtOfAnyMachines(t *testing.T) {
	for _, c := range someMachines() {
		for _, addr := range beyond() {
			wantValueAt(t, c.name, c.m, addr, impl.IntResult{Code: impl.ErrRange})
		}
		for addr := range int64(110) {
			wantValueAt(t, c.name, c.m, addr, impl.IntResult{Value: valueByHand(c.m, addr)})
		}
		for _, addr := range []int64{500, 999995, 999996, 999997, 999998, 999999} {
			wantValueAt(t, c.name, c.m, addr, impl.IntResult{Value: valueByHand(c.m, addr)})
		}
	}
}

func TestTheCoreOfADeedIsOneOfTheCaches(t *testing.T) {
	for cores := 1; cores <= 4; cores++ {
		m := newByHand(cores, 2)
		for core := range int64(cores) {
			wantDeed(t, "a core that is there", m, core, stores(3, 5), doneByHand(m, core, stores(3, 5)))
		}
		for _, core := range append(beyond(), int64(cores), int64(cores)+1, 4, 256) {
			wantNoDeed(t, "no such core", m, core, stores(3, 5), impl.ErrRange)
			for o := range faultyOps() {
				wantNoDeed(t, "no such core ahead of the op", m, core, o, impl.ErrRange)
			}
			full := machineOf(risingCells(32, 0), m.Caches...)
			wantNoDeed(t, "no such core ahead of the cells", full, core, stores(3, 5), impl.ErrRange)
		}
	}
}

func TestTheOpOfADeedHasNoFault(t *testing.T) {
	for _, cells := range []int{0, 1, 30, 31, 32} {
		m := newByHand(2, 2)
		m.Memory = risingCells(cells, 0)
		for o, code := range faultyOps() {
			for core := range int64(2) {
				wantNoDeed(t, fmt.Sprint("an op with a fault, and ", cells, " cells"), m, core, o, code)
			}
		}
	}
}

func TestADeedNeedsRoomForTwoCells(t *testing.T) {
	for size := range 33 {
		for _, line := range []impl.Line{{}, modified(500, 1), modified(0, 1), shared(500, 0), shared(0, 100)} {
			m := machineOf(risingCells(size, 0), []impl.Line{line}, []impl.Line{{}})
			if machineFaultByHand(m) != impl.OK {
				continue
			}
			for core := range int64(2) {
				for _, o := range []impl.Op{loads(0), loads(500), loads(7), stores(0, 1), stores(500, 2), stores(7, 0)} {
					if size > 30 {
						wantNoDeed(t, fmt.Sprint(size, " cells"), m, core, o, impl.ErrMany)
					} else {
						wantDeed(t, fmt.Sprint(size, " cells"), m, core, o, doneByHand(m, core, o))
					}
				}
			}
		}
	}
	// Both write backs of one load at once: the memory is full then.
	m := machineOf(risingCells(30, 1), []impl.Line{modified(500, 1)}, []impl.Line{modified(0, 2)})
	full := append(append(cellsOf(0, 2), risingCells(30, 1)...), cellsOf(500, 1)...)
	wantDeed(t, "32 cells come of it", m, 0, loads(0), impl.MachineResult{Machine: machineOf(full, []impl.Line{shared(0, 2)}, []impl.Line{shared(0, 2)}), Value: 2})
	wantDeed(t, "32 cells come of it", m, 0, stores(0, 3), impl.MachineResult{Machine: machineOf(full, []impl.Line{modified(0, 3)}, []impl.Line{{}}), Value: 3})
}

type deedCase struct {
	name   string
	before impl.Machine
	op     impl.Op
	after  impl.Machine
	value  int64
}

// checkDeeds asks DoOp for each core in turn: the first cache of a case is that
// of the core that does the op.
func checkDeeds(t *testing.T, deeds []deedCase) {
	t.Helper()
	for _, d := range deeds {
		wantDeed(t, d.name, d.before, 0, d.op, impl.MachineResult{Machine: d.after, Value: d.value})
		before, after := cloneMachine(d.before), cloneMachine(d.after)
		slices.Reverse(before.Caches)
		slices.Reverse(after.Caches)
		wantDeed(t, d.name+", as the last core", before, int64(len(before.Caches))-1, d.op, impl.MachineResult{Machine: after, Value: d.value})
	}
}

// twoCaches have one line each.
func twoCaches(memory []impl.Cell, own impl.Line, other impl.Line) impl.Machine {
	return machineOf(memory, []impl.Line{own}, []impl.Line{other})
}

func TestLoadsOfTheDocument(t *testing.T) {
	no, some := impl.Line{}, cellsOf(2, 20, 5, 50, 8, 80)
	checkDeeds(t, []deedCase{
		{"nothing anywhere", twoCaches(nil, no, no), loads(5), twoCaches(nil, shared(5, 0), no), 0},
		{"nothing anywhere, at 0", twoCaches(nil, no, no), loads(0), twoCaches(nil, shared(0, 0), no), 0},
		{"invalid", twoCaches(some, no, no), loads(5), twoCaches(some, shared(5, 50), no), 50},
		{"invalid, no cell", twoCaches(some, no, no), loads(6), twoCaches(some, shared(6, 0), no), 0},
		{"shared of this Addr", twoCaches(some, shared(5, 50), no), loads(5), twoCaches(some, shared(5, 50), no), 50},
		{"shared of this Addr, no cell", twoCaches(some, shared(0, 0), no), loads(0), twoCaches(some, shared(0, 0), no), 0},
		{"shared of this Addr by both", twoCaches(some, shared(5, 50), shared(5, 50)), loads(5), twoCaches(some, shared(5, 50), shared(5, 50)), 50},
		{"modified of this Addr", twoCaches(some, modified(5, 55), no), loads(5), twoCaches(some, modified(5, 55), no), 55},
		{"modified to 0 of this Addr", twoCaches(some, modified(5, 0), no), loads(5), twoCaches(some, modified(5, 0), no), 0},
		{"modified of this Addr, no cell", twoCaches(nil, modified(0, 5), no), loads(0), twoCaches(nil, modified(0, 5), no), 5},
		{"modified of this Addr, another one by the other", twoCaches(some, modified(5, 55), modified(2, 22)), loads(5), twoCaches(some, modified(5, 55), modified(2, 22)), 55},
		{"shared of another Addr", twoCaches(some, shared(2, 20), no), loads(5), twoCaches(some, shared(5, 50), no), 50},
		{"shared of another Addr, no cell", twoCaches(some, shared(2, 20), no), loads(3), twoCaches(some, shared(3, 0), no), 0},
		{"modified of another Addr over a cell", twoCaches(some, modified(2, 22), no), loads(5), twoCaches(cellsOf(2, 22, 5, 50, 8, 80), shared(5, 50), no), 50},
		{"modified of another Addr as its cell", twoCaches(some, modified(2, 20), no), loads(5), twoCaches(some, shared(5, 50), no), 50},
		{"modified of another Addr ahead", twoCaches(some, modified(0, 1), no), loads(5), twoCaches(cellsOf(0, 1, 2, 20, 5, 50, 8, 80), shared(5, 50), no), 50},
		{"modified of another Addr between", twoCaches(some, modified(6, 60), no), loads(5), twoCaches(cellsOf(2, 20, 5, 50, 6, 60, 8, 80), shared(5, 50), no), 50},
		{"modified of another Addr behind", twoCaches(some, modified(999999, 9), no), loads(5), twoCaches(cellsOf(2, 20, 5, 50, 8, 80, 999999, 9), shared(5, 50), no), 50},
		{"modified of another Addr, no memory", twoCaches(nil, modified(7, 70), no), loads(0), twoCaches(cellsOf(7, 70), shared(0, 0), no), 0},
		{"modified to 0 of another Addr over the first cell", twoCaches(some, modified(2, 0), no), loads(5), twoCaches(cellsOf(5, 50, 8, 80), shared(5, 50), no), 50},
		{"modified to 0 of another Addr over the last cell", twoCaches(some, modified(8, 0), no), loads(5), twoCaches(cellsOf(2, 20, 5, 50), shared(5, 50), no), 50},
		{"modified to 0 of another Addr over the only cell", twoCaches(cellsOf(8, 80), modified(8, 0), no), loads(5), twoCaches(nil, shared(5, 0), no), 0},
		{"modified to 0 of another Addr, no cell", twoCaches(some, modified(7, 0), no), loads(5), twoCaches(some, shared(5, 50), no), 50},
		{"the other has it shared", twoCaches(some, no, shared(5, 50)), loads(5), twoCaches(some, shared(5, 50), shared(5, 50)), 50},
		{"the other has it shared, no cell", twoCaches(some, no, shared(0, 0)), loads(0), twoCaches(some, shared(0, 0), shared(0, 0)), 0},
		{"the other has it modified over a cell", twoCaches(some, no, modified(5, 55)), loads(5), twoCaches(cellsOf(2, 20, 5, 55, 8, 80), shared(5, 55), shared(5, 55)), 55},
		{"the other has it modified, no cell", twoCaches(some, no, modified(0, 7)), loads(0), twoCaches(cellsOf(0, 7, 2, 20, 5, 50, 8, 80), shared(0, 7), shared(0, 7)), 7},
		{"the other has it modified to 0 over a cell", twoCaches(some, no, modified(5, 0)), loads(5), twoCaches(cellsOf(2, 20, 8, 80), shared(5, 0), shared(5, 0)), 0},
		{"the other has it modified to 0, no cell", twoCaches(some, no, modified(6, 0)), loads(6), twoCaches(some, shared(6, 0), shared(6, 0)), 0},
		{"the other has another one shared", twoCaches(some, no, shared(2, 20)), loads(5), twoCaches(some, shared(5, 50), shared(2, 20)), 50},
		{"the other has another one modified", twoCaches(some, no, modified(2, 22)), loads(5), twoCaches(some, shared(5, 50), modified(2, 22)), 50},
		{"the own one shared, the other has another one modified", twoCaches(some, shared(5, 50), modified(2, 22)), loads(5), twoCaches(some, shared(5, 50), modified(2, 22)), 50},
		{"another Addr modified, the other has it modified", twoCaches(some, modified(2, 22), modified(5, 55)), loads(5), twoCaches(cellsOf(2, 22, 5, 55, 8, 80), shared(5, 55), shared(5, 55)), 55},
		{"another Addr modified, the other has it shared", twoCaches(some, modified(2, 22), shared(5, 50)), loads(5), twoCaches(cellsOf(2, 22, 5, 50, 8, 80), shared(5, 50), shared(5, 50)), 50},
		{"another Addr shared by both", twoCaches(some, shared(2, 20), shared(2, 20)), loads(5), twoCaches(some, shared(5, 50), shared(2, 20)), 50},
		{"another Addr shared, the other has it modified", twoCaches(some, shared(2, 20), modified(5, 55)), loads(5), twoCaches(cellsOf(2, 20, 5, 55, 8, 80), shared(5, 55), shared(5, 55)), 55},
	})
}

func TestStoresOfTheDocument(t *testing.T) {
	no, some := impl.Line{}, cellsOf(2, 20, 5, 50, 8, 80)
	checkDeeds(t, []deedCase{
		{"nothing anywhere", twoCaches(nil, no, no), stores(5, 1), twoCaches(nil, modified(5, 1), no), 1},
		{"nothing anywhere, at 0", twoCaches(nil, no, no), stores(0, 1), twoCaches(nil, modified(0, 1), no), 1},
		{"0 where there is nothing", twoCaches(nil, no, no), stores(5, 0), twoCaches(nil, modified(5, 0), no), 0},
		{"the largest Value", twoCaches(nil, no, no), stores(999999, 999999), twoCaches(nil, modified(999999, 999999), no), 999999},
		{"invalid", twoCaches(some, no, no), stores(5, 1), twoCaches(some, modified(5, 1), no), 1},
		{"0 over a cell", twoCaches(some, no, no), stores(5, 0), twoCaches(some, modified(5, 0), no), 0},
		{"as the cell", twoCaches(some, no, no), stores(5, 50), twoCaches(some, modified(5, 50), no), 50},
		{"shared of this Addr", twoCaches(some, shared(5, 50), no), stores(5, 1), twoCaches(some, modified(5, 1), no), 1},
		{"0, shared of this Addr", twoCaches(some, shared(5, 50), no), stores(5, 0), twoCaches(some, modified(5, 0), no), 0},
		{"shared of this Addr by both", twoCaches(some, shared(5, 50), shared(5, 50)), stores(5, 1), twoCaches(some, modified(5, 1), no), 1},
		{"as it is, shared of this Addr by both", twoCaches(some, shared(5, 50), shared(5, 50)), stores(5, 50), twoCaches(some, modified(5, 50), no), 50},
		{"shared at 0 by both, no cell", twoCaches(nil, shared(0, 0), shared(0, 0)), stores(0, 0), twoCaches(nil, modified(0, 0), no), 0},
		{"modified of this Addr", twoCaches(some, modified(5, 55), no), stores(5, 1), twoCaches(some, modified(5, 1), no), 1},
		{"0, modified of this Addr", twoCaches(some, modified(5, 55), no), stores(5, 0), twoCaches(some, modified(5, 0), no), 0},
		{"modified of this Addr, no cell", twoCaches(nil, modified(0, 5), no), stores(0, 6), twoCaches(nil, modified(0, 6), no), 6},
		{"modified of this Addr, another one by the other", twoCaches(some, modified(5, 55), modified(2, 22)), stores(5, 1), twoCaches(some, modified(5, 1), modified(2, 22)), 1},
		{"shared of another Addr", twoCaches(some, shared(2, 20), no), stores(5, 1), twoCaches(some, modified(5, 1), no), 1},
		{"shared of another Addr by both", twoCaches(some, shared(2, 20), shared(2, 20)), stores(5, 1), twoCaches(some, modified(5, 1), shared(2, 20)), 1},
		{"modified of another Addr over a cell", twoCaches(some, modified(2, 22), no), stores(5, 1), twoCaches(cellsOf(2, 22, 5, 50, 8, 80), modified(5, 1), no), 1},
		{"modified of another Addr ahead", twoCaches(some, modified(0, 9), no), stores(5, 1), twoCaches(cellsOf(0, 9, 2, 20, 5, 50, 8, 80), modified(5, 1), no), 1},
		{"modified of another Addr between", twoCaches(some, modified(4, 9), no), stores(5, 1), twoCaches(cellsOf(2, 20, 4, 9, 5, 50, 8, 80), modified(5, 1), no), 1},
		{"modified of another Addr behind", twoCaches(some, modified(9, 9), no), stores(5, 1), twoCaches(cellsOf(2, 20, 5, 50, 8, 80, 9, 9), modified(5, 1), no), 1},
		{"modified to 0 of another Addr over a cell", twoCaches(some, modified(8, 0), no), stores(5, 1), twoCaches(cellsOf(2, 20, 5, 50), modified(5, 1), no), 1},
		{"modified to 0 of another Addr, no cell", twoCaches(some, modified(9, 0), no), stores(5, 0), twoCaches(some, modified(5, 0), no), 0},
		{"the other has it shared", twoCaches(some, no, shared(5, 50)), stores(5, 1), twoCaches(some, modified(5, 1), no), 1},
		{"the other has it shared, no cell", twoCaches(some, no, shared(0, 0)), stores(0, 1), twoCaches(some, modified(0, 1), no), 1},
		{"the other has it modified over a cell", twoCaches(some, no, modified(5, 55)), stores(5, 1), twoCaches(cellsOf(2, 20, 5, 55, 8, 80), modified(5, 1), no), 1},
		{"the other has it modified, no cell", twoCaches(some, no, modified(0, 7)), stores(0, 1), twoCaches(cellsOf(0, 7, 2, 20, 5, 50, 8, 80), modified(0, 1), no), 1},
		{"the other has it modified to 0 over a cell", twoCaches(some, no, modified(5, 0)), stores(5, 1), twoCaches(cellsOf(2, 20, 8, 80), modified(5, 1), no), 1},
		{"the other has it modified to 0, no cell", twoCaches(some, no, modified(6, 0)), stores(6, 1), twoCaches(some, modified(6, 1), no), 1},
		{"0, the other has it modified", twoCaches(some, no, modified(5, 55)), stores(5, 0), twoCaches(cellsOf(2, 20, 5, 55, 8, 80), modified(5, 0), no), 0},
		{"the other has another one shared", twoCaches(some, no, shared(2, 20)), stores(5, 1), twoCaches(some, modified(5, 1), shared(2, 20)), 1},
		{"the other has another one modified", twoCaches(some, no, modified(2, 22)), stores(5, 1), twoCaches(some, modified(5, 1), modified(2, 22)), 1},
		{"the own one shared, the other has another one modified", twoCaches(some, shared(5, 50), modified(2, 22)), stores(5, 1), twoCaches(some, modified(5, 1), modified(2, 22)), 1},
		{"another Addr modified, the other has it modified", twoCaches(some, modified(2, 22), modified(5, 55)), stores(5, 1), twoCaches(cellsOf(2, 22, 5, 55, 8, 80), modified(5, 1), no), 1},
		{"another Addr modified, the other has it shared", twoCaches(some, modified(2, 22), shared(5, 50)), stores(5, 1), twoCaches(cellsOf(2, 22, 5, 50, 8, 80), modified(5, 1), no), 1},
		{"another Addr shared, the other has it modified", twoCaches(some, shared(2, 20), modified(5, 55)), stores(5, 1), twoCaches(cellsOf(2, 20, 5, 55, 8, 80), modified(5, 1), no), 1},
	})
}

func TestDeedsOfMoreLinesAndCores(t *testing.T) {
	no, some := impl.Line{}, cellsOf(2, 20, 5, 50, 8, 80)
	lines := func(list ...impl.Line) []impl.Line { return list }
	checkDeeds(t, []deedCase{
		{"all others share it", machineOf(some, lines(no), lines(shared(5, 50)), lines(shared(5, 50)), lines(shared(5, 50))), stores(5, 1), machineOf(some, lines(modified(5, 1)), lines(no), lines(no), lines(no)), 1},
		{"all share it", machineOf(some, lines(shared(5, 50)), lines(shared(5, 50)), lines(shared(5, 50))), stores(5, 1), machineOf(some, lines(modified(5, 1)), lines(no), lines(no)), 1},
		{"one of the others has another one", machineOf(some, lines(no), lines(shared(5, 50)), lines(modified(2, 22)), lines(shared(5, 50))), stores(5, 1), machineOf(some, lines(modified(5, 1)), lines(no), lines(modified(2, 22)), lines(no)), 1},
		{"one of the others has it modified", machineOf(some, lines(no), lines(shared(2, 20)), lines(modified(5, 55)), lines(no)), loads(5), machineOf(cellsOf(2, 20, 5, 55, 8, 80), lines(shared(5, 55)), lines(shared(2, 20)), lines(shared(5, 55)), lines(no)), 55},
		{"the lines at other places stay at a load", machineOf(some, lines(modified(3, 1), modified(4, 2), shared(2, 20)), lines(modified(0, 3), shared(1, 0), modified(5, 55))), loads(5), machineOf(cellsOf(2, 20, 5, 55, 8, 80), lines(modified(3, 1), modified(4, 2), shared(5, 55)), lines(modified(0, 3), shared(1, 0), shared(5, 55))), 55},
		{"the lines at other places stay at a store", machineOf(some, lines(modified(3, 1), modified(4, 2), modified(2, 22)), lines(modified(0, 3), shared(1, 0), shared(5, 50))), stores(5, 1), machineOf(cellsOf(2, 22, 5, 50, 8, 80), lines(modified(3, 1), modified(4, 2), modified(5, 1)), lines(modified(0, 3), shared(1, 0), no)), 1},
		{"the first place of four", machineOf(some, lines(shared(8, 80), no, no, modified(3, 3)), lines(modified(4, 4), no, no, no)), loads(4), machineOf(cellsOf(2, 20, 4, 4, 5, 50, 8, 80), lines(shared(4, 4), no, no, modified(3, 3)), lines(shared(4, 4), no, no, no)), 4},
		{"the last place of four", machineOf(some, lines(shared(8, 80), no, no, modified(3, 3)), lines(modified(4, 4), no, no, no)), stores(999999, 1), machineOf(cellsOf(2, 20, 3, 3, 5, 50, 8, 80), lines(shared(8, 80), no, no, modified(999999, 1)), lines(modified(4, 4), no, no, no)), 1},
		{"one core alone", machineOf(some, lines(modified(4, 4), modified(3, 3))), loads(5), machineOf(cellsOf(2, 20, 3, 3, 5, 50, 8, 80), lines(modified(4, 4), shared(5, 50))), 50},
	})
}

// smallMachines goes through all machines of so many cores and lines without a
// fault, of two Addrs for each place and few Values.
func smallMachines(t *testing.T, cores int, lines int64, check func(m impl.Machine)) {
	t.Helper()
	places, addrs := int64(cores)*lines, 2*lines
	all := int64(math.Pow(9, float64(places)) * math.Pow(3, float64(addrs)))
	for i := range all {
		m := newByHand(cores, lines)
		n := i
		for addr := range addrs {
			if value := n % 3; value > 0 {
				m.Memory = append(m.Memory, impl.Cell{Addr: addr, Value: value})
			}
			n /= 3
		}
		for core := range m.Caches {
			for place := range lines {
				if kind := n % 9; kind > 0 {
					m.Caches[core][place] = impl.Line{State: 1 + (kind-1)%2, Addr: place + lines*((kind-1)/2%2), Value: (kind - 1) / 4}
				}
				n /= 9
			}
		}
		code := machineFaultByHand(m)
		if got := impl.MachineFault(m); got != code {
			t.Fatalf("MachineFault(%v) is %d, not %d", m, got, code)
		}
		if code == impl.OK {
			check(m)
		}
	}
}

// checkDeed holds P8 for one call: what comes of it has no fault, a load tells
// what there is, each core loads what was stored, and nothing else changes.
func checkDeed(t *testing.T, m impl.Machine, core int64, o impl.Op, addrs int64) {
	t.Helper()
	wantDeed(t, "any machine", m, core, o, doneByHand(m, core, o))
	done := impl.DoOp(m, core, o)
	if code := impl.MachineFault(done.Machine); code != impl.OK {
		t.Fatalf("what DoOp(%v, %d, %v) makes has the fault %d", m, core, o, code)
	}
	want := impl.ValueAt(m, o.Addr).Value
	if o.Kind == impl.KindStore {
		want = o.Value
	}
	if done.Value != want {
		t.Fatalf("DoOp(%v, %d, %v) tells the Value %d, not %d", m, core, o, done.Value, want)
	}
	for addr := range addrs {
		if addr == o.Addr {
			wantValueAt(t, "the Addr of the op", done.Machine, addr, impl.IntResult{Value: want})
		} else {
			wantValueAt(t, "another Addr", done.Machine, addr, impl.ValueAt(m, addr))
		}
	}
	for other := range done.Machine.Caches {
		if got := impl.DoOp(done.Machine, int64(other), loads(o.Addr)); got.Code != impl.OK || got.Value != want {
			t.Fatalf("after DoOp(%v, %d, %v) the core %d loads %+v, not %d", m, core, o, other, got, want)
		}
	}
}

func TestDeedsOfAllSmallMachines(t *testing.T) {
	for _, size := range []struct {
		cores int
		lines int64
	}{{1, 1}, {2, 1}, {3, 1}, {1, 2}} {
		count := 0
		smallMachines(t, size.cores, size.lines, func(m impl.Machine) {
			count++
			for core := range int64(size.cores) {
				for addr := range 2*size.lines + 1 {
					for _, o := range []impl.Op{loads(addr), stores(addr, 0), stores(addr, 1), stores(addr, 3)} {
						checkDeed(t, m, core, o, 2*size.lines+2)
					}
				}
			}
		})
		if count < 20 {
			t.Errorf("only %d machines of %d cores and %d lines", count, size.cores, size.lines)
		}
	}
}

func TestDeedsOfAnyMachines(t *testing.T) {
	for seed := range int64(30000) {
		m := wildMachine(seed)
		n := numbersOf(4, 1000000, seed+77)
		core, o := n[0]%5, stores(n[1]%10, n[2]%3)
		if n[3]%2 == 0 {
			o = loads(n[1] % 10)
		}
		switch code := machineFaultByHand(m); {
		case code != impl.OK:
			wantNoDeed(t, "a machine with a fault", m, core, o, code)
		case core >= int64(len(m.Caches)):
			wantNoDeed(t, "no such core", m, core, o, impl.ErrRange)
		default:
			checkDeed(t, m, core, o, 10)
		}
	}
}

// A long row of deeds, one machine after the other, with Addrs far apart: what
// each core loads is what one memory has.
func TestManyDeedsOneAfterAnother(t *testing.T) {
	addrs := []int64{0, 1, 2, 3, 4, 7, 12, 500, 999996, 999999}
	for cores := int64(1); cores <= 4; cores++ {
		for lines := int64(1); lines <= 4; lines++ {
			m, memory := impl.NewMachine(cores, lines).Machine, map[int64]int64{}
			for i, n := range numbersOf(600, 1000000, cores*10+lines) {
				o := stores(addrs[n/10%10], n/100%3*(1+int64(i)))
				if n%2 == 0 {
					o = loads(addrs[n/10%10])
				}
				core := n / 1000 % cores
				want := doneByHand(m, core, o)
				wantDeed(t, fmt.Sprint("deed ", i), m, core, o, want)
				if o.Kind == impl.KindStore {
					memory[o.Addr] = o.Value
				}
				if want.Value != memory[o.Addr] {
					t.Fatalf("the %d-th one, %v of core %d, tells %d, not %d", i, o, core, want.Value, memory[o.Addr])
				}
				m = impl.DoOp(m, core, o).Machine
				for _, addr := range addrs {
					wantValueAt(t, fmt.Sprint("after deed ", i), m, addr, impl.IntResult{Value: memory[addr]})
				}
			}
		}
	}
}

func TestSimulateOfTheDocument(t *testing.T) {
	no := impl.Line{}
	step := func(core int64, e impl.Event) impl.Step { return impl.Step{Core: core, Event: e} }
	programs := [][]impl.Op{{stores(1, 5)}, {loads(1), loads(1)}}
	wantSimulated(t, "a store between two loads", programs, 1, []int64{1, 0}, impl.SimResult{
		Log:     []impl.Step{step(1, load(1, 0)), step(0, store(1, 5)), step(1, load(1, 5))},
		Machine: machineOf(cellsOf(1, 5), []impl.Line{shared(1, 5)}, []impl.Line{shared(1, 5)}),
	})
	wantSimulated(t, "no picks", programs, 2, nil, impl.SimResult{
		Log:     []impl.Step{step(0, store(1, 5)), step(1, load(1, 5)), step(1, load(1, 5))},
		Machine: machineOf(cellsOf(1, 5), []impl.Line{no, shared(1, 5)}, []impl.Line{no, shared(1, 5)}),
	})
	wantSimulated(t, "picks of no core, and of who has nothing left", programs, 1, []int64{2, 1, -1, 1, 1, 1, 4, math.MaxInt64, math.MinInt64, 0, 0}, impl.SimResult{
		Log:     []impl.Step{step(1, load(1, 0)), step(1, load(1, 0)), step(0, store(1, 5))},
		Machine: machineOf(nil, []impl.Line{modified(1, 5)}, []impl.Line{no}),
	})
	programs = [][]impl.Op{nil, {stores(3, 7), stores(5, 0), loads(3)}, {}}
	wantSimulated(t, "a store of 0 that drives out a line", programs, 2, []int64{0, 2}, impl.SimResult{
		Log:     []impl.Step{step(1, store(3, 7)), step(1, store(5, 0)), step(1, load(3, 7))},
		Machine: machineOf(cellsOf(3, 7), []impl.Line{no, no}, []impl.Line{no, shared(3, 7)}, []impl.Line{no, no}),
	})
	programs = [][]impl.Op{{stores(3, 7), loads(5), stores(3, 0), loads(5)}}
	wantSimulated(t, "a write back of 0", programs, 1, nil, impl.SimResult{
		Log:     []impl.Step{step(0, store(3, 7)), step(0, load(5, 0)), step(0, store(3, 0)), step(0, load(5, 0))},
		Machine: machineOf(nil, []impl.Line{shared(5, 0)}),
	})
	for cores := 1; cores <= 4; cores++ {
		for lines := int64(1); lines <= 4; lines++ {
			wantSimulated(t, "no ops", make([][]impl.Op, cores), lines, []int64{0, 1}, impl.SimResult{Machine: newByHand(cores, lines)})
		}
	}
}

// What a machine does is what one memory would do, whatever its caches are.
func TestSimulateTellsWhatOneMemoryWouldDo(t *testing.T) {
	for seed := range int64(3000) {
		cores := int(seed%4) + 1
		programs, picks := anyPrograms(cores, []int64{1, 2, 5, 9, 1000}[seed%5], seed), anyPicks(int(seed*7%101), seed)
		log := oneMemory(programs, picks)
		for lines := int64(1); lines <= 4; lines++ {
			want := simulatedByHand(programs, lines, picks)
			if !slices.Equal(want.Log, log) {
				t.Fatalf("by hand the log is %v, not %v", want.Log, log)
			}
			wantSimulated(t, fmt.Sprint("programs ", seed), programs, lines, picks, want)
			if code := impl.MachineFault(want.Machine); code != impl.OK {
				t.Fatalf("the machine %v has the fault %d", want.Machine, code)
			}
			if code := impl.LogFault(log, int64(cores)); code != impl.OK {
				t.Fatalf("the log %v has the fault %d", log, code)
			}
		}
	}
}

// Each op as a step of its own is what all of them are as programs.
func TestSimulateGoesByDoOp(t *testing.T) {
	for seed := range int64(200) {
		cores, lines := seed%4+1, seed/4%4+1
		programs, picks := anyPrograms(int(cores), 6, seed+5000), anyPicks(40, seed)
		got := impl.Simulate(programs, lines, picks)
		m := impl.NewMachine(cores, lines).Machine
		for i, s := range impl.MergeTrace(eventsByHand(programs), picks).Log {
			done := impl.DoOp(m, s.Core, impl.Op{Kind: s.Event.Kind, Addr: s.Event.Addr, Value: s.Event.Value})
			s.Event.Value = done.Value
			if done.Code != impl.OK || got.Log[i] != s {
				t.Fatalf("step %d of Simulate(%v, %d, %v) is %v, not %v", i, programs, lines, picks, got.Log[i], s)
			}
			m = done.Machine
		}
		if !impl.SameMachines(got.Machine, m) {
			t.Fatalf("the machine of Simulate(%v, %d, %v) is %v, not %v", programs, lines, picks, got.Machine, m)
		}
	}
}

// 32 stores at as many Addrs leave 28 cells behind; where two cores load at
// last what two others stored, all of 30 stores are cells.
func TestFullProgramsAreSimulated(t *testing.T) {
	full := make([][]impl.Op, 4)
	for core := range full {
		for i := range int64(8) {
			full[core] = append(full[core], stores(100*i+int64(core), 999999-i))
		}
	}
	turnAbout := slices.Repeat([]int64{0, 1, 2, 3}, 8)
	for _, picks := range [][]int64{nil, turnAbout, inARow(8, 3, 2, 1, 0), inARow(25, 0, 1, 2, 3)} {
		for lines := int64(1); lines <= 4; lines++ {
			wantSimulated(t, "32 stores", full, lines, picks, simulatedByHand(full, lines, picks))
		}
	}
	if got := impl.Simulate(full, 1, turnAbout); len(got.Machine.Memory) != 28 || len(got.Log) != 32 {
		t.Errorf("32 stores make %d cells and %d steps", len(got.Machine.Memory), len(got.Log))
	}
	most := [][]impl.Op{append(slices.Clone(full[0][:7]), loads(full[1][7].Addr)), full[1], append(slices.Clone(full[2][:7]), loads(full[3][7].Addr)), full[3]}
	picks := append(slices.Concat(inARow(7, 0), inARow(8, 1), inARow(7, 2), inARow(8, 3)), 0, 2)
	wantSimulated(t, "30 stores, all written back", most, 1, picks, simulatedByHand(most, 1, picks))
	if got := impl.Simulate(most, 1, picks); len(got.Machine.Memory) != 30 {
		t.Errorf("30 stores make %d cells", len(got.Machine.Memory))
	}
}

func TestSimulateOfFaults(t *testing.T) {
	good := [][]impl.Op{{stores(1, 5)}, {loads(1)}}
	bad := map[string][][]impl.Op{"no cores": nil, "none of them": {}, "five cores": make([][]impl.Op, 5), "nine ops": {manyOps(9, loads(1))}, "a later core": {{loads(1)}, manyOps(9, loads(1))}}
	codes := map[string]int64{}
	for name := range bad {
		codes[name] = impl.ErrMany
	}
	for o, code := range faultyOps() {
		name := fmt.Sprint("the op ", o)
		bad[name], codes[name] = [][]impl.Op{{loads(1)}, {stores(1, 5), o}}, code
	}
	for _, lines := range append(beyond(), 0, 5, 6, 256, 257, 1, 4) {
		for _, size := range []int{0, 100, 101, 102, 100000} {
			picks := make([]int64, size)
			for name, programs := range bad {
				wantNoSim(t, name, programs, lines, picks, codes[name])
			}
			switch {
			case lines != 1 && lines != 4:
				wantNoSim(t, "no such number of lines", good, lines, picks, impl.ErrRange)
			case size > 100:
				wantNoSim(t, "too many picks", good, lines, picks, impl.ErrMany)
			default:
				wantSimulated(t, "no fault", good, lines, picks, simulatedByHand(good, lines, picks))
			}
		}
	}
	long := make([]int64, 101)
	long[99], long[100] = 1, 1
	wantSimulated(t, "room behind the picks", good, 2, long[:100], simulatedByHand(good, 2, long[:100]))
	wantNoSim(t, "101 picks of no core", good, 2, slices.Repeat([]int64{-1}, 101), impl.ErrMany)
}

// differentMachines are no two of them the same, with a fault and without.
func differentMachines() []impl.Machine {
	base := machineOf(cellsOf(1, 10, 4, 40, 7, 70), []impl.Line{shared(4, 40), shared(1, 10)}, []impl.Line{modified(6, 60), shared(1, 10)}, []impl.Line{{}, modified(9, 90)})
	machines := []impl.Machine{{}, base, {Caches: base.Caches}, {Memory: base.Memory}}
	add := func(turn func(m *impl.Machine)) {
		m := cloneMachine(base)
		turn(&m)
		machines = append(machines, m)
	}
	for core := range base.Caches {
		for place := range base.Caches[core] {
			add(func(m *impl.Machine) { m.Caches[core][place].State += 3 })
			add(func(m *impl.Machine) { m.Caches[core][place].State = -1 })
			add(func(m *impl.Machine) { m.Caches[core][place].Addr++ })
			add(func(m *impl.Machine) { m.Caches[core][place].Addr += 1 << 32 })
			add(func(m *impl.Machine) { m.Caches[core][place].Value++ })
			add(func(m *impl.Machine) { m.Caches[core][place].Value = math.MinInt64 })
		}
		add(func(m *impl.Machine) { m.Caches[core] = nil })
		add(func(m *impl.Machine) { m.Caches[core] = m.Caches[core][:1] })
		add(func(m *impl.Machine) { m.Caches[core] = append(m.Caches[core], impl.Line{}) })
		add(func(m *impl.Machine) { slices.Reverse(m.Caches[core]) })
	}
	for at := range base.Memory {
		add(func(m *impl.Machine) { m.Memory[at].Addr++ })
		add(func(m *impl.Machine) { m.Memory[at].Addr = -1 })
		add(func(m *impl.Machine) { m.Memory[at].Value++ })
		add(func(m *impl.Machine) { m.Memory[at].Value += 1 << 32 })
		add(func(m *impl.Machine) { m.Memory = slices.Delete(m.Memory, at, at+1) })
	}
	add(func(m *impl.Machine) { m.Caches = m.Caches[:2] })
	add(func(m *impl.Machine) { m.Caches = m.Caches[1:] })
	add(func(m *impl.Machine) { m.Caches = append(m.Caches, nil) })
	add(func(m *impl.Machine) { m.Caches = append(m.Caches, make([]impl.Line, 2)) })
	add(func(m *impl.Machine) { slices.Reverse(m.Caches) })
	add(func(m *impl.Machine) { m.Memory = append(m.Memory, impl.Cell{}) })
	add(func(m *impl.Machine) { slices.Reverse(m.Memory) })
	long := newByHand(100, 50)
	turned := cloneMachine(long)
	turned.Caches[99][49].Value = 1
	return append(machines, long, turned, newByHand(50, 100), impl.Machine{Memory: make([]impl.Cell, 1000)}, impl.Machine{Memory: make([]impl.Cell, 999)},
		impl.Machine{Caches: make([][]impl.Line, 1)}, impl.Machine{Caches: make([][]impl.Line, 2)}, newByHand(1, 1), newByHand(1, 2), newByHand(2, 1))
}

func TestSameMachines(t *testing.T) {
	for i, a := range differentMachines() {
		for j, b := range differentMachines() {
			if got := impl.SameMachines(a, b); got != (i == j) {
				t.Errorf("SameMachines of machines %d and %d (%v, %v) is %v", i, j, a, b, got)
			}
		}
	}
	for _, c := range someMachines() {
		if !impl.SameMachines(c.m, cloneMachine(c.m)) || !impl.SameMachines(c.m, c.m) {
			t.Errorf("%s: the machine is not the same as itself", c.name)
		}
	}
	empty := impl.Machine{Caches: [][]impl.Line{}, Memory: []impl.Cell{}}
	if !impl.SameMachines(impl.Machine{}, empty) || !impl.SameMachines(empty, impl.Machine{}) {
		t.Error("nil and the machine of empty lists are not the same")
	}
	if !impl.SameMachines(impl.Machine{Caches: [][]impl.Line{nil, {}}}, impl.Machine{Caches: [][]impl.Line{{}, nil}}) {
		t.Error("nil and the cache without lines are not the same")
	}
	room := machineOf(cellsOf(1, 1, 2, 2)[:1], make([]impl.Line, 3)[:2])
	if !impl.SameMachines(room, machineOf(cellsOf(1, 1), make([]impl.Line, 2))) {
		t.Error("what stands behind the end of a list is looked at")
	}
}

// faultyMachines are machines with a fault.
func faultyMachines() []impl.Machine {
	var machines []impl.Machine
	for _, c := range turnedMachines() {
		m := machineOf(cellsOf(1, 10, 4, 40, 7, 70), []impl.Line{shared(4, 40), shared(1, 10)}, []impl.Line{modified(6, 60), shared(1, 10)}, []impl.Line{{}, modified(9, 90)})
		c.turn(&m)
		machines = append(machines, m)
	}
	return machines
}

func opsForAll() []impl.Op {
	return []impl.Op{loads(0), loads(1), loads(2), loads(3), loads(999999), stores(0, 0), stores(1, 7), stores(2, 0), stores(3, 8), stores(4, 40), stores(999996, 1), {Kind: 2}, loads(-1), {Value: 1}}
}

// withRoomBehind is a machine all of whose lists have room behind them, with
// what stands there: nothing may be written into that, either.
func withRoomBehind(m impl.Machine) (impl.Machine, impl.Machine) {
	whole := impl.Machine{Memory: append(slices.Clone(m.Memory), cellsOf(900, 9, 901, 9, 902, 9)...)}
	for _, list := range append(slices.Clone(m.Caches), nil, nil) {
		whole.Caches = append(whole.Caches, append(slices.Clone(list), shared(9, 9), modified(8, 8), shared(7, 7), modified(6, 6), impl.Line{}))
	}
	given := impl.Machine{Caches: slices.Clone(whole.Caches), Memory: whole.Memory[:len(m.Memory)]}
	for core, list := range m.Caches {
		given.Caches[core] = whole.Caches[core][:len(list)]
	}
	given.Caches = given.Caches[:len(m.Caches)]
	return given, whole
}

func TestNoMachineIsChanged(t *testing.T) {
	machines := faultyMachines()
	for _, c := range someMachines() {
		machines = append(machines, c.m)
	}
	for _, m := range machines {
		given, whole := withRoomBehind(m)
		before, heads := cloneMachine(whole), slices.Clone(given.Caches[:cap(given.Caches)])
		impl.MachineFault(given)
		for core := int64(-1); core <= 4; core++ {
			for _, o := range opsForAll() {
				impl.DoOp(given, core, o)
			}
		}
		for _, addr := range []int64{-1, 0, 1, 4, 9, 999999} {
			impl.ValueAt(given, addr)
		}
		impl.SameMachines(given, before)
		impl.SameMachines(before, given)
		impl.SameMachines(given, given)
		if !alikeMachines(whole, before) || !alikeMachines(impl.Machine{Caches: given.Caches[:cap(given.Caches)]}, impl.Machine{Caches: heads}) || len(given.Memory) != len(m.Memory) {
			t.Errorf("the machine %v is changed", m)
		}
	}
}

func clonePrograms(programs [][]impl.Op) [][]impl.Op {
	out := make([][]impl.Op, len(programs))
	for core, ops := range programs {
		out[core] = slices.Clone(ops)
	}
	return out
}

func samePrograms(a [][]impl.Op, b [][]impl.Op) bool {
	return slices.EqualFunc(a, b, func(a []impl.Op, b []impl.Op) bool { return slices.Equal(a, b) })
}

func TestNoProgramsAndNoPicksAreChanged(t *testing.T) {
	lists := [][][]impl.Op{nil, make([][]impl.Op, 5), {manyOps(9, loads(1))}}
	for o := range faultyOps() {
		lists = append(lists, [][]impl.Op{{loads(1)}, {o, o}})
	}
	for seed := range int64(40) {
		lists = append(lists, anyPrograms(int(seed%4)+1, 5, seed))
	}
	for i, programs := range lists {
		// Room behind each row, and behind the list of them.
		var whole [][]impl.Op
		for _, ops := range append(slices.Clone(programs), nil, nil) {
			whole = append(whole, append(slices.Clone(ops), stores(9, 9), loads(8), stores(7, 0), loads(6), impl.Op{Kind: 5}))
		}
		given, picks := slices.Clone(whole), anyPicks(150, int64(i))
		for core := range programs {
			given[core] = whole[core][:len(programs[core])]
		}
		before, heads, picksBefore := clonePrograms(whole), slices.Clone(given), slices.Clone(picks)
		impl.ProgramsFault(given[:len(programs)])
		for _, size := range []int{0, 1, 20, 100, 101} {
			for lines := range int64(6) {
				impl.Simulate(given[:len(programs)], lines, picks[:size])
			}
		}
		if !samePrograms(whole, before) || !samePrograms(given, heads) || !slices.Equal(picks, picksBefore) {
			t.Errorf("the programs %v or the picks are changed", programs)
		}
	}
}

// spoilMachine writes into all the memory that a machine has, that behind the
// ends of its lists, too.
func spoilMachine(m impl.Machine) {
	for core := range m.Caches {
		spoilLines(m.Caches[core])
	}
	spoilCells(m.Memory)
	clear(m.Caches[:cap(m.Caches)])
}

func spoilLines(list []impl.Line) {
	list = list[:cap(list)]
	for i := range list {
		list[i] = impl.Line{State: 9, Addr: 9, Value: 9}
	}
}

func spoilCells(list []impl.Cell) {
	list = list[:cap(list)]
	for i := range list {
		list[i] = impl.Cell{Addr: 9, Value: 9}
	}
}

// checkApart spoils one list after the other of an answer: all others stay as
// they are, and so does another answer to the same.
func checkApart(t *testing.T, name string, answer func() impl.Machine) {
	t.Helper()
	want := cloneMachine(answer())
	other := answer()
	for core := range want.Caches {
		got := answer()
		spoilLines(got.Caches[core])
		_ = append(got.Caches[core], shared(9, 9))
		got.Caches[core] = want.Caches[core]
		if !alikeMachines(got, want) {
			t.Fatalf("%s: cache %d of %v shares memory with another list", name, core, want)
		}
	}
	got := answer()
	spoilCells(got.Memory)
	got.Memory = want.Memory
	if !alikeMachines(got, want) {
		t.Fatalf("%s: the memory of %v is that of another list, too", name, want)
	}
	spoilMachine(answer())
	if !alikeMachines(other, want) {
		t.Fatalf("%s: two answers share memory: %v", name, want)
	}
}

func TestMachinesAreNewMemory(t *testing.T) {
	for cores := int64(1); cores <= 4; cores++ {
		for lines := int64(1); lines <= 4; lines++ {
			checkApart(t, "NewMachine", func() impl.Machine { return impl.NewMachine(cores, lines).Machine })
		}
	}
	for _, c := range someMachines() {
		for _, o := range opsForAll() {
			core := int64(len(c.m.Caches)) - 1
			given := cloneMachine(c.m)
			checkApart(t, c.name, func() impl.Machine { return impl.DoOp(given, core, o).Machine })
			if !alikeMachines(given, c.m) {
				t.Fatalf("%s: what DoOp answers shares memory with the machine", c.name)
			}
			answer := impl.DoOp(given, core, o).Machine
			want := cloneMachine(answer)
			spoilMachine(given)
			if !alikeMachines(answer, want) {
				t.Fatalf("%s: what DoOp answers turns with the machine", c.name)
			}
		}
	}
}

func TestWhatIsSimulatedIsNewMemory(t *testing.T) {
	for seed := range int64(60) {
		programs, picks, lines := anyPrograms(int(seed%4)+1, 5, seed), anyPicks(30, seed), seed/4%4+1
		given, givenPicks := clonePrograms(programs), slices.Clone(picks)
		checkApart(t, "Simulate", func() impl.Machine { return impl.Simulate(given, lines, givenPicks).Machine })
		first, second, third := impl.Simulate(given, lines, givenPicks), impl.Simulate(given, lines, givenPicks), impl.Simulate(given, lines, givenPicks)
		want := simulatedByHand(programs, lines, picks)
		spoilLog(first.Log)
		if !slices.Equal(second.Log, want.Log) || !alikeMachines(first.Machine, want.Machine) {
			t.Fatalf("the log of Simulate(%v) shares memory", programs)
		}
		spoilMachine(second.Machine)
		if !samePrograms(given, programs) || !slices.Equal(givenPicks, picks) || !slices.Equal(second.Log, want.Log) {
			t.Fatalf("an answer of Simulate(%v) shares memory", programs)
		}
		for _, ops := range given {
			copy(ops[:cap(ops)], manyOps(cap(ops), impl.Op{Kind: 9}))
		}
		clear(given)
		spoilNumbers(givenPicks)
		if !slices.Equal(third.Log, want.Log) || !alikeMachines(third.Machine, want.Machine) {
			t.Fatalf("what Simulate(%v) answers turns with the arguments", programs)
		}
	}
}

// Caches that share memory with one another are asked as any others, and what
// is done to one of them is done to no other one.
func TestCachesThatShareMemory(t *testing.T) {
	row := []impl.Line{shared(3, 5), {}, shared(3, 5), {}}
	m := machineOf(cellsOf(3, 5), row[:1], row[:1], row[2:3], row[1:2])
	before := slices.Clone(row)
	for core := range int64(4) {
		for _, o := range opsForAll() {
			if opFaultByHand(o) == impl.OK {
				wantDeed(t, "caches that share memory", m, core, o, doneByHand(m, core, o))
			}
		}
	}
	ops := []impl.Op{stores(1, 5), loads(2), loads(1), stores(2, 0), loads(2)}
	programs := [][]impl.Op{ops[:3], ops[1:], ops[:3]}
	for lines := int64(1); lines <= 4; lines++ {
		wantSimulated(t, "programs that share memory", programs, lines, []int64{2, 1, 0, 1}, simulatedByHand(programs, lines, []int64{2, 1, 0, 1}))
	}
	if !slices.Equal(row, before) {
		t.Error("the lines are changed")
	}
}

// machineAnswers asks each function of the chapter.
func machineAnswers(m impl.Machine, seed int64) []string {
	programs, picks := anyPrograms(int(seed%5), 5, seed), anyPicks(int(seed*13%102), seed)
	answers := []string{
		fmt.Sprint(impl.MachineFault(m), impl.ValueAt(m, seed%8), impl.ValueAt(m, -1), impl.SameMachines(m, impl.Machine{})),
		fmt.Sprint(impl.ProgramsFault(programs), impl.Simulate(programs, seed%6, picks)),
		fmt.Sprint(impl.NewMachine(seed%6, 2), impl.NewMachine(2, seed%6)),
	}
	for _, o := range opsForAll() {
		answers = append(answers, fmt.Sprint(impl.OpFault(o), impl.DoOp(m, seed%3, o)))
	}
	return answers
}

// What is kept from a machine, or from programs that were refused, would turn
// the answers that follow.
func TestAnswersAboutMachinesHangOnTheArgumentsAlone(t *testing.T) {
	machines := faultyMachines()
	for _, c := range someMachines() {
		machines = append(machines, c.m)
	}
	var before [][]string
	for i, m := range machines {
		before = append(before, machineAnswers(m, int64(i)))
	}
	for range 5 {
		for i := len(machines) - 1; i >= 0; i-- {
			if after := machineAnswers(machines[i], int64(i)); !slices.Equal(after, before[i]) {
				t.Fatalf("the answers about machine %d are %v, and were %v", i, after, before[i])
			}
		}
	}
}
