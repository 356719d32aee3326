package tests

import (
	"fmt"
	"maps"
	"math"
	"slices"
	"testing"
	"time"

	"loop.example/g00800/impl"
)

func idOf(core int64, index int64) impl.WriteId {
	return impl.WriteId{Core: core, Index: index}
}

// listOf is a list of ids that stand in pairs: a Core, and an Index.
func listOf(addr int64, numbers ...int64) impl.WriteList {
	list := impl.WriteList{Addr: addr}
	for i := 0; i < len(numbers); i += 2 {
		list.Ids = append(list.Ids, idOf(numbers[i], numbers[i+1]))
	}
	return list
}

func orderOf(lists ...impl.WriteList) []impl.WriteList {
	return lists
}

func traceOf(cores ...[]impl.Event) [][]impl.Event {
	return cores
}

func eventsOf(events ...impl.Event) []impl.Event {
	return events
}

func cloneOrders(orders []impl.WriteList) []impl.WriteList {
	out := slices.Clone(orders)
	for i, list := range orders {
		out[i].Ids = slices.Clone(list.Ids)
	}
	return out
}

func alikeOrders(a []impl.WriteList, b []impl.WriteList) bool {
	return slices.EqualFunc(a, b, func(a impl.WriteList, b impl.WriteList) bool {
		return a.Addr == b.Addr && slices.Equal(a.Ids, b.Ids)
	})
}

// traceFaultByHand follows the words of the document, as all the functions by
// hand below.
func traceFaultByHand(cores [][]impl.Event) int64 {
	if len(cores) < 1 || len(cores) > 4 {
		return impl.ErrMany
	}
	for _, list := range cores {
		if len(list) > 8 {
			return impl.ErrMany
		}
		for _, e := range list {
			switch {
			case e.Kind != 0 && e.Kind != 1:
				return impl.ErrForm
			case e.Addr < 0 || e.Addr > 999999 || e.Value < 0 || e.Value > 999999:
				return impl.ErrRange
			}
		}
	}
	return impl.OK
}

// orderFaultByHand takes each id out of those that have to be there.
func orderFaultByHand(cores [][]impl.Event, orders []impl.WriteList) int64 {
	if code := traceFaultByHand(cores); code != impl.OK {
		return code
	}
	missing := map[int64]map[impl.WriteId]bool{}
	for core, list := range cores {
		for index, e := range list {
			if e.Kind == impl.KindStore && missing[e.Addr] == nil {
				missing[e.Addr] = map[impl.WriteId]bool{}
			}
			if e.Kind == impl.KindStore {
				missing[e.Addr][idOf(int64(core), int64(index))] = true
			}
		}
	}
	right := len(orders) == len(missing)
	for i, list := range orders {
		right = right && (i == 0 || orders[i-1].Addr < list.Addr) && missing[list.Addr] != nil
		for _, id := range list.Ids {
			right = right && missing[list.Addr][id]
			delete(missing[list.Addr], id)
		}
		right = right && len(missing[list.Addr]) == 0
	}
	if !right {
		return impl.ErrOrder
	}
	return impl.OK
}

// ordersByHand counts, for each store, the steps of its core ahead of it.
func ordersByHand(log []impl.Step) []impl.WriteList {
	stored := map[int64][]impl.WriteId{}
	for at, s := range log {
		index := int64(0)
		for _, ahead := range log[:at] {
			if ahead.Core == s.Core {
				index++
			}
		}
		if s.Event.Kind == impl.KindStore {
			stored[s.Event.Addr] = append(stored[s.Event.Addr], idOf(s.Core, index))
		}
	}
	var orders []impl.WriteList
	for _, addr := range slices.Sorted(maps.Keys(stored)) {
		orders = append(orders, impl.WriteList{Addr: addr, Ids: stored[addr]})
	}
	return orders
}

// ownOrder is the write order of a trace core by core.
func ownOrder(cores [][]impl.Event) []impl.WriteList {
	return ordersByHand(mergedByHand(cores, nil))
}

func eventCount(cores [][]impl.Event) int {
	count := 0
	for _, list := range cores {
		count += len(list)
	}
	return count
}

// beginsByHand plays a row, or its beginning, from the first event on.
func beginsByHand(cores [][]impl.Event, orders []impl.WriteList, row []int64) bool {
	next := make([]int, len(cores))
	stored := map[int64][]impl.WriteId{}
	memory := map[int64]int64{}
	for _, core := range row {
		if core < 0 || core >= int64(len(cores)) || next[core] == len(cores[core]) {
			return false
		}
		e := cores[core][next[core]]
		if e.Kind == impl.KindStore {
			memory[e.Addr] = e.Value
			stored[e.Addr] = append(stored[e.Addr], idOf(core, int64(next[core])))
		}
		if e.Value != memory[e.Addr] {
			return false
		}
		next[core]++
	}
	for _, list := range orders {
		if ids := stored[list.Addr]; !slices.Equal(ids, list.Ids[:min(len(ids), len(list.Ids))]) {
			return false
		}
	}
	return true
}

func fitsByHand(cores [][]impl.Event, orders []impl.WriteList, row []int64) bool {
	return orderFaultByHand(cores, orders) == impl.OK && len(row) == eventCount(cores) && beginsByHand(cores, orders, row)
}

// allRows are the rows of a small trace, from the first one on.
func allRows(cores [][]impl.Event) [][]int64 {
	var rows [][]int64
	var extend func(row []int64, left [][]impl.Event)
	extend = func(row []int64, left [][]impl.Event) {
		if eventCount(left) == 0 {
			rows = append(rows, slices.Clone(row))
			return
		}
		for core, list := range left {
			if len(list) > 0 {
				rest := slices.Clone(left)
				rest[core] = list[1:]
				extend(append(slices.Clone(row), int64(core)), rest)
			}
		}
	}
	extend(nil, cores)
	return rows
}

// checkedByRows asks all rows of a small trace without a fault.
func checkedByRows(cores [][]impl.Event, orders []impl.WriteList) impl.CheckResult {
	for _, row := range allRows(cores) {
		if fitsByHand(cores, orders, row) {
			return impl.CheckResult{Accept: true, Witness: row}
		}
	}
	return impl.CheckResult{}
}

// checkedByHand is for large traces, too: which events are done tells which
// ones may come behind them, so no more than one beginning with these is tried.
func checkedByHand(cores [][]impl.Event, orders []impl.WriteList) impl.CheckResult {
	inVain := map[string]bool{}
	var extend func(row []int64) []int64
	extend = func(row []int64) []int64 {
		done := fmt.Sprint(slices.Sorted(slices.Values(row)))
		if len(row) == eventCount(cores) || inVain[done] {
			return row
		}
		for core := range cores {
			longer := append(slices.Clone(row), int64(core))
			if !beginsByHand(cores, orders, longer) {
				continue
			}
			if found := extend(longer); len(found) == eventCount(cores) {
				return found
			}
		}
		inVain[done] = true
		return row
	}
	if found := extend(nil); len(found) == eventCount(cores) {
		return impl.CheckResult{Accept: true, Witness: found}
	}
	return impl.CheckResult{}
}

// checkedSoon is CheckTrace, that has to end: a search that tries the same
// again and again would go on for years.
func checkedSoon(t *testing.T, name string, cores [][]impl.Event, orders []impl.WriteList) impl.CheckResult {
	t.Helper()
	answer, panicked := make(chan impl.CheckResult, 1), make(chan any, 1)
	go func() {
		defer func() {
			if fault := recover(); fault != nil {
				panicked <- fault
			}
		}()
		answer <- impl.CheckTrace(cores, orders)
	}()
	select {
	case got := <-answer:
		return got
	case fault := <-panicked:
		t.Fatalf("%s: CheckTrace(%v, %v) panics: %v", name, cores, orders, fault)
	case <-time.After(time.Minute):
		t.Fatalf("%s: CheckTrace(%v, %v) does not end", name, cores, orders)
	}
	return impl.CheckResult{}
}

// wantChecked asks CheckTrace, and IsWitness of what it tells.
func wantChecked(t *testing.T, name string, cores [][]impl.Event, orders []impl.WriteList, want impl.CheckResult) {
	t.Helper()
	got := checkedSoon(t, name, cores, orders)
	if got.Code != impl.OK || got.Accept != want.Accept || !slices.Equal(got.Witness, want.Witness) {
		t.Fatalf("%s: CheckTrace(%v, %v) is %+v, not %+v", name, cores, orders, got, want)
	}
	if got.Accept && (!fitsByHand(cores, orders, got.Witness) || !impl.IsWitness(cores, orders, got.Witness)) {
		t.Fatalf("%s: %v is told to be a row that fits %v, %v", name, got.Witness, cores, orders)
	}
}

func wantRow(t *testing.T, name string, cores [][]impl.Event, orders []impl.WriteList, row ...int64) {
	t.Helper()
	wantChecked(t, name, cores, orders, impl.CheckResult{Accept: true, Witness: row})
}

func wantNoRow(t *testing.T, name string, cores [][]impl.Event, orders []impl.WriteList) {
	t.Helper()
	wantChecked(t, name, cores, orders, impl.CheckResult{})
}

func wantWitness(t *testing.T, name string, cores [][]impl.Event, orders []impl.WriteList, row []int64, want bool) {
	t.Helper()
	if got := impl.IsWitness(cores, orders, row); got != want {
		t.Fatalf("%s: IsWitness(%v, %v, %v) is %v", name, cores, orders, row[:min(len(row), 40)], got)
	}
}

// wantOrderFault asks OrderFault, and the two functions that begin with it.
func wantOrderFault(t *testing.T, name string, cores [][]impl.Event, orders []impl.WriteList, code int64) {
	t.Helper()
	wantCode(t, fmt.Sprintf("%s: OrderFault of %d cores and %d lists", name, len(cores), len(orders)), impl.OrderFault(cores, orders), code)
	got := checkedSoon(t, name, cores, orders)
	if got.Code != code || code != impl.OK && (got.Accept || len(got.Witness) != 0) {
		t.Errorf("%s: CheckTrace of %d cores and %d lists is %+v, not code %d alone", name, len(cores), len(orders), got, code)
	}
	if code != impl.OK {
		for _, row := range [][]int64{nil, {0}, {0, 1}, {0, 0, 1, 1}, coresByHand(mergedShort(cores))} {
			wantWitness(t, name, cores[:min(len(cores), 9)], orders, row, false)
		}
	}
}

// mergedShort is for any trace: one that is too large is left.
func mergedShort(cores [][]impl.Event) []impl.Step {
	if eventCount(cores) > 40 {
		return nil
	}
	return mergedByHand(cores, nil)
}

func permutations(ids []impl.WriteId) [][]impl.WriteId {
	if len(ids) == 0 {
		return [][]impl.WriteId{nil}
	}
	var out [][]impl.WriteId
	for i, id := range ids {
		for _, rest := range permutations(slices.Delete(slices.Clone(ids), i, i+1)) {
			out = append(out, append([]impl.WriteId{id}, rest...))
		}
	}
	return out
}

// everyOrder are all write orders of a small trace.
func everyOrder(cores [][]impl.Event) [][]impl.WriteList {
	all := [][]impl.WriteList{nil}
	for _, list := range ownOrder(cores) {
		var longer [][]impl.WriteList
		for _, ahead := range all {
			for _, ids := range permutations(list.Ids) {
				longer = append(longer, append(slices.Clone(ahead), impl.WriteList{Addr: list.Addr, Ids: ids}))
			}
		}
		all = longer
	}
	return all
}

// anyTrace has so many cores of up to most events, of few Addrs and Values, the
// same at each call.
func anyTrace(count int, most int64, addrs int64, values int64, seed int64) [][]impl.Event {
	cores := make([][]impl.Event, count)
	for core := range cores {
		size := numbersOf(1, most+1, seed*5+int64(core))[0]
		for _, n := range numbersOf(int(size), 1000000, seed*11+int64(core)) {
			cores[core] = append(cores[core], impl.Event{Kind: n % 2, Addr: n / 10 % addrs, Value: n / 1000 % values})
		}
	}
	return cores
}

// playedByHand is the log of one memory: each load has what was stored last.
func playedByHand(cores [][]impl.Event, picks []int64) []impl.Step {
	memory := map[int64]int64{}
	log := mergedByHand(cores, picks)
	for i, s := range log {
		if s.Event.Kind == impl.KindStore {
			memory[s.Event.Addr] = s.Event.Value
		}
		log[i].Event.Value = memory[s.Event.Addr]
	}
	return log
}

// shuffled turns the ids of each list about, without a rule that shows.
func shuffled(orders []impl.WriteList, seed int64) []impl.WriteList {
	out := cloneOrders(orders)
	for i, list := range out {
		for at, n := range numbersOf(len(list.Ids), 1000000, seed*3+int64(i)) {
			other := int(n) % (at + 1)
			list.Ids[at], list.Ids[other] = list.Ids[other], list.Ids[at]
		}
	}
	return out
}

// turnedLoad gives one load another Value, where there is a load.
func turnedLoad(cores [][]impl.Event, seed int64) [][]impl.Event {
	out := cloneTrace(cores)
	for _, list := range out {
		for i := range list {
			if at := (i + int(seed)) % len(list); list[at].Kind == impl.KindLoad {
				list[at].Value = (list[at].Value + 1) % 3
				return out
			}
		}
	}
	return out
}

type orderCase struct {
	name   string
	cores  [][]impl.Event
	orders []impl.WriteList
}

// mixedTrace has stores of several cores to one Addr, of one core to several,
// loads between them, and an Addr that only loads have.
func mixedTrace() [][]impl.Event {
	return traceOf(
		eventsOf(store(7, 1), load(9, 0), store(3, 2), store(7, 3)),
		eventsOf(load(7, 0), store(7, 4)),
		nil,
		eventsOf(store(3, 0), store(999999, 999999), load(3, 0)),
	)
}

func mixedOrder() []impl.WriteList {
	return orderOf(listOf(3, 0, 2, 3, 0), listOf(7, 0, 0, 0, 3, 1, 1), listOf(999999, 3, 1))
}

// someOrders are traces without a fault, each with a write order of it: one
// that the trace may have come of, and others.
func someOrders() []orderCase {
	cases := []orderCase{{"mixed", mixedTrace(), mixedOrder()}}
	for i, cores := range someTraces() {
		cases = append(cases, orderCase{fmt.Sprint("trace ", i), cores, ownOrder(cores)})
	}
	for seed := range int64(60) {
		log := playedByHand(anyTrace(int(seed%4)+1, 8, seed%5+1, 3, seed), anyPicks(30, seed))
		cores, orders := splitByHand(log, seed%4+1), ordersByHand(log)
		cases = append(cases, orderCase{fmt.Sprint("played ", seed), cores, orders},
			orderCase{fmt.Sprint("shuffled ", seed), cores, shuffled(orders, seed)},
			orderCase{fmt.Sprint("turned ", seed), turnedLoad(cores, seed), orders})
	}
	return cases
}

// wrongOrders are write orders of another trace than mixedTrace.
func wrongOrders() []orderCase {
	var cases []orderCase
	add := func(name string, turn func(orders []impl.WriteList) []impl.WriteList) {
		cases = append(cases, orderCase{name, mixedTrace(), turn(mixedOrder())})
	}
	put := func(name string, at int, ids ...int64) {
		add(name, func(orders []impl.WriteList) []impl.WriteList {
			orders[at] = listOf(orders[at].Addr, ids...)
			return orders
		})
	}
	add("no list", func(orders []impl.WriteList) []impl.WriteList { return nil })
	for at := range mixedOrder() {
		add(fmt.Sprint("list ", at, " is not there"), func(orders []impl.WriteList) []impl.WriteList { return slices.Delete(orders, at, at+1) })
		add(fmt.Sprint("list ", at, " alone"), func(orders []impl.WriteList) []impl.WriteList { return orders[at : at+1] })
		add(fmt.Sprint("list ", at, " is there twice"), func(orders []impl.WriteList) []impl.WriteList { return slices.Insert(orders, at, orders[at]) })
		add(fmt.Sprint("list ", at, " is there once more, without ids"), func(orders []impl.WriteList) []impl.WriteList {
			return slices.Insert(orders, at+1, impl.WriteList{Addr: orders[at].Addr})
		})
		add(fmt.Sprint("list ", at, " is there in place of the next one"), func(orders []impl.WriteList) []impl.WriteList {
			orders[(at+1)%len(orders)] = orders[at]
			return orders
		})
		add(fmt.Sprint("list ", at, " has no ids"), func(orders []impl.WriteList) []impl.WriteList {
			orders[at].Ids = nil
			return orders
		})
		add(fmt.Sprint("list ", at, " has an id too few"), func(orders []impl.WriteList) []impl.WriteList {
			orders[at].Ids = orders[at].Ids[1:]
			return orders
		})
		add(fmt.Sprint("list ", at, " has its last id once more"), func(orders []impl.WriteList) []impl.WriteList {
			orders[at].Ids = append(orders[at].Ids, orders[at].Ids[len(orders[at].Ids)-1])
			return orders
		})
		for _, addr := range append(beyond(), 2, 4, 6, 8, 9, 999998) {
			add(fmt.Sprint("list ", at, " has the Addr ", addr), func(orders []impl.WriteList) []impl.WriteList {
				orders[at].Addr = addr
				return orders
			})
		}
	}
	add("a list too many, ahead", func(orders []impl.WriteList) []impl.WriteList { return append(orderOf(listOf(0)), orders...) })
	add("a list too many, between", func(orders []impl.WriteList) []impl.WriteList { return slices.Insert(orders, 1, listOf(5)) })
	add("a list too many, behind", func(orders []impl.WriteList) []impl.WriteList { return append(orders, listOf(1000000, 0, 0)) })
	add("a list of nothing", func(orders []impl.WriteList) []impl.WriteList { return append(orders, impl.WriteList{}) })
	add("very many lists", func(orders []impl.WriteList) []impl.WriteList {
		return append(orders, make([]impl.WriteList, 100000)...)
	})
	add("an Addr that only loads have", func(orders []impl.WriteList) []impl.WriteList { return slices.Insert(orders, 2, listOf(9)) })
	add("an Addr that only loads have, with the load", func(orders []impl.WriteList) []impl.WriteList { return slices.Insert(orders, 2, listOf(9, 0, 1)) })
	add("falling", func(orders []impl.WriteList) []impl.WriteList { slices.Reverse(orders); return orders })
	for at := range 2 {
		add(fmt.Sprint("lists ", at, " and the next one fall"), func(orders []impl.WriteList) []impl.WriteList {
			orders[at], orders[at+1] = orders[at+1], orders[at]
			return orders
		})
		add(fmt.Sprint("lists ", at, " and the next one have each other's ids"), func(orders []impl.WriteList) []impl.WriteList {
			orders[at].Ids, orders[at+1].Ids = orders[at+1].Ids, orders[at].Ids
			return orders
		})
	}
	add("two lists of one Addr", func(orders []impl.WriteList) []impl.WriteList {
		return orderOf(listOf(3, 0, 2), listOf(3, 3, 0), orders[1], orders[2])
	})
	add("two lists of one Addr, and none of another one", func(orders []impl.WriteList) []impl.WriteList {
		return orderOf(orders[0], listOf(7, 0, 0, 0, 3), listOf(7, 1, 1))
	})
	put("an id too few", 1, 0, 0, 0, 3)
	put("the first id is not there", 1, 0, 3, 1, 1)
	put("an id twice", 1, 0, 0, 0, 3, 1, 1, 0, 3)
	put("an id twice in place of another one", 1, 0, 0, 0, 3, 0, 0)
	put("one id in place of all", 1, 1, 1, 1, 1, 1, 1)
	put("an id of another Addr", 1, 0, 0, 0, 3, 1, 1, 0, 2)
	put("an id of another Addr in place of one", 1, 0, 0, 0, 2, 1, 1)
	put("an id of a load", 1, 0, 0, 0, 3, 1, 1, 1, 0)
	put("an id of a load in place of one", 1, 0, 0, 0, 3, 1, 0)
	put("an id of a load in place of one, at another Addr", 0, 0, 2, 3, 2)
	put("Core and Index stand the other way round", 0, 2, 0, 0, 3)
	for at, ids := range [][]int64{{0, 2, 3, 0}, {0, 0, 0, 3, 1, 1}, {3, 1}} {
		for place := 0; place < len(ids); place += 2 {
			for _, core := range []int64{-1, 2, 4, 5, -2, 256, 1 << 32, -1 << 32, math.MinInt64, math.MaxInt64, ids[place] + 1<<32, ids[place] - 256} {
				put(fmt.Sprint("the Core ", core), at, slices.Concat(ids[:place], []int64{core}, ids[place+1:])...)
				put(fmt.Sprint("the Core ", core, " once more"), at, slices.Concat(ids, []int64{core, ids[place+1]})...)
			}
			size := int64(len(mixedTrace()[ids[place]]))
			for _, index := range []int64{-1, size, size + 1, 8, 9, -2, 256, 1 << 32, -1 << 32, math.MinInt64, math.MaxInt64, ids[place+1] + 1<<32, ids[place+1] - 256} {
				put(fmt.Sprint("the Index ", index), at, slices.Concat(ids[:place+1], []int64{index}, ids[place+2:])...)
				put(fmt.Sprint("the Index ", index, " once more"), at, slices.Concat(ids, []int64{ids[place], index})...)
			}
		}
	}
	return cases
}

func TestWriteOrdersWithoutAFault(t *testing.T) {
	for _, c := range someOrders() {
		wantOrderFault(t, c.name, c.cores, c.orders, impl.OK)
		wantOrderFault(t, c.name, c.cores, ownOrder(c.cores), impl.OK)
	}
}

func TestATraceWithoutStoresHasTheWriteOrderWithoutLists(t *testing.T) {
	traces := [][][]impl.Event{{eventsOf(load(7, 0))}, {nil, eventsOf(load(7, 1), load(0, 0)), nil}, {manyOf(8, load(0, 0)), manyOf(8, load(999999, 999999))}}
	for count := 1; count <= 4; count++ {
		traces = append(traces, make([][]impl.Event, count))
	}
	for _, cores := range traces {
		wantOrderFault(t, "nil", cores, nil, impl.OK)
		wantOrderFault(t, "no list", cores, []impl.WriteList{}, impl.OK)
		wantOrderFault(t, "room behind", cores, mixedOrder()[:0], impl.OK)
		for _, orders := range [][]impl.WriteList{{{}}, {listOf(7)}, {listOf(0)}, {listOf(7, 0, 0)}, {listOf(0, 1, 1)}, {listOf(8)}, mixedOrder()} {
			wantOrderFault(t, "a list where no store is", cores, orders, impl.ErrOrder)
		}
	}
}

func TestWrongWriteOrders(t *testing.T) {
	wantOrderFault(t, "mixed", mixedTrace(), mixedOrder(), impl.OK)
	for _, c := range wrongOrders() {
		wantOrderFault(t, c.name, c.cores, c.orders, impl.ErrOrder)
		if code := orderFaultByHand(c.cores, c.orders); code != impl.ErrOrder {
			t.Errorf("%s: by hand the code is %d", c.name, code)
		}
	}
	// What stands behind the end of a list is none of it.
	room := mixedOrder()
	for i := range room {
		room[i].Ids = append(slices.Clone(room[i].Ids), idOf(9, 9))[:len(room[i].Ids)]
	}
	wantOrderFault(t, "room behind", mixedTrace(), append(room, listOf(9, 9, 9))[:3], impl.OK)
	one := traceOf(eventsOf(store(0, 0)))
	wantOrderFault(t, "one store", one, orderOf(listOf(0, 0, 0)), impl.OK)
	wantOrderFault(t, "the list without ids", one, orderOf(listOf(0)), impl.ErrOrder)
	wantOrderFault(t, "the id of no core", one, orderOf(listOf(0, 1, 0)), impl.ErrOrder)
	wantOrderFault(t, "the id of no event", one, orderOf(listOf(0, 0, 1)), impl.ErrOrder)
	wantOrderFault(t, "very many ids", one, orderOf(impl.WriteList{Ids: make([]impl.WriteId, 1000000)}), impl.ErrOrder)
	wantOrderFault(t, "very many lists", one, make([]impl.WriteList, 1000000), impl.ErrOrder)
}

// The fault of the trace comes first, whatever the write order is.
func TestTheFaultOfTheTraceComesAheadOfTheWriteOrder(t *testing.T) {
	lists := [][]impl.WriteList{nil, {{}}, {listOf(0, 0, 0)}, mixedOrder(), {listOf(-1, -1, -1)}}
	for _, orders := range lists {
		for _, c := range faultyTraces() {
			wantOrderFault(t, c.name, c.cores, orders, c.want)
		}
		for e, code := range faultyEvents() {
			wantOrderFault(t, "an event with a fault", traceOf(eventsOf(e)), orders, code)
			wantOrderFault(t, "the last event has a fault", traceOf(eventsOf(store(0, 1)), nil, eventsOf(load(0, 0), e)), orders, code)
		}
	}
	// A write order that would be right, but for the fault.
	wantOrderFault(t, "a store beyond", traceOf(eventsOf(store(1000000, 1))), orderOf(listOf(1000000, 0, 0)), impl.ErrRange)
	wantOrderFault(t, "a store below 0", traceOf(eventsOf(store(-1, 1))), orderOf(listOf(-1, 0, 0)), impl.ErrRange)
	wantOrderFault(t, "a Value beyond", traceOf(eventsOf(store(1, 1000000))), orderOf(listOf(1, 0, 0)), impl.ErrRange)
	wantOrderFault(t, "five cores", slices.Repeat(traceOf(nil), 5), nil, impl.ErrMany)
	nine := impl.WriteList{Addr: 1}
	for index := range int64(9) {
		nine.Ids = append(nine.Ids, idOf(0, index))
	}
	wantOrderFault(t, "nine stores", traceOf(manyOf(9, store(1, 1))), orderOf(nine), impl.ErrMany)
}

func TestIdsMayStandInAnyOrder(t *testing.T) {
	traces := [][][]impl.Event{mixedTrace(), {manyOf(3, store(7, 1)), manyOf(2, store(7, 1))}, {eventsOf(store(1, 1), store(2, 2)), eventsOf(store(2, 2), store(1, 1)), eventsOf(store(1, 0), store(2, 0))}}
	for _, cores := range traces {
		for _, orders := range everyOrder(cores) {
			wantOrderFault(t, "any order", cores, orders, impl.OK)
		}
	}
	full := slices.Repeat(traceOf(manyOf(8, store(5, 5))), 4)
	for seed := range int64(200) {
		wantOrderFault(t, "32 ids in any order", full, shuffled(ownOrder(full), seed), impl.OK)
	}
}

// All write orders of up to two lists of up to two ids, of a few Addrs, Cores
// and Indexes, right and wrong.
func TestOrderFaultOfAllSmallWriteOrders(t *testing.T) {
	ids := []impl.WriteId{idOf(0, 0), idOf(0, 1), idOf(1, 0), idOf(1, 1), idOf(-1, 0), idOf(2, 0), idOf(0, -1)}
	var lists []impl.WriteList
	for _, addr := range []int64{7, 8, 0} {
		lists = append(lists, listOf(addr))
		for _, first := range ids {
			lists = append(lists, impl.WriteList{Addr: addr, Ids: []impl.WriteId{first}})
			for _, second := range ids {
				lists = append(lists, impl.WriteList{Addr: addr, Ids: []impl.WriteId{first, second}})
			}
		}
	}
	traces := [][][]impl.Event{
		{eventsOf(load(7, 0))},
		{eventsOf(store(7, 1))},
		{eventsOf(store(7, 1)), eventsOf(store(7, 2))},
		{eventsOf(store(7, 1), load(7, 0)), eventsOf(load(8, 0), store(7, 2))},
		{eventsOf(store(7, 1), store(8, 1)), eventsOf(store(8, 2))},
		{eventsOf(store(8, 1), store(7, 1)), eventsOf(store(7, 2), store(8, 2))},
	}
	for _, cores := range traces {
		right := 0
		ask := func(orders ...impl.WriteList) {
			want := orderFaultByHand(cores, orders)
			if got := impl.OrderFault(cores, orders); got != want {
				t.Fatalf("OrderFault(%v, %v) is %d, not %d", cores, orders, got, want)
			}
			if want == impl.OK {
				right++
			}
		}
		ask()
		for _, first := range lists {
			ask(first)
			for _, second := range lists {
				ask(first, second)
			}
		}
		if right != len(everyOrder(cores)) {
			t.Errorf("%d write orders of %v are right", right, cores)
		}
	}
}

func wantOrders(t *testing.T, name string, log []impl.Step, cores int64, want []impl.WriteList) {
	t.Helper()
	got := impl.OrdersOf(log, cores)
	if got.Code != impl.OK || !alikeOrders(got.Orders, want) {
		t.Fatalf("%s: OrdersOf(%v, %d) is %+v, not %+v", name, log, cores, got, want)
	}
}

func wantNoOrders(t *testing.T, name string, log []impl.Step, cores int64, code int64) {
	t.Helper()
	if got := impl.OrdersOf(log, cores); got.Code != code || len(got.Orders) != 0 {
		t.Errorf("%s: OrdersOf of %d steps and %d cores is %+v, not code %d alone", name, len(log), cores, got, code)
	}
}

func TestOrdersOfTheDocument(t *testing.T) {
	step := func(core int64, e impl.Event) impl.Step { return impl.Step{Core: core, Event: e} }
	a, b := step(0, store(7, 1)), step(1, store(7, 1))
	for cores := int64(1); cores <= 4; cores++ {
		wantOrders(t, "no step", nil, cores, nil)
		wantOrders(t, "an empty list of steps", []impl.Step{}, cores, nil)
		wantOrders(t, "loads alone", []impl.Step{step(0, load(7, 0)), step(cores-1, load(0, 5)), step(0, load(7, 9))}, cores, nil)
		wantOrders(t, "one store", []impl.Step{step(cores-1, store(0, 0))}, cores, orderOf(listOf(0, cores-1, 0)))
	}
	wantOrders(t, "two cores to one Addr", []impl.Step{a, b}, 2, orderOf(listOf(7, 0, 0, 1, 0)))
	wantOrders(t, "two cores to one Addr, the other way round", []impl.Step{b, a}, 2, orderOf(listOf(7, 1, 0, 0, 0)))
	wantOrders(t, "turn about", []impl.Step{a, b, a, b, b}, 2, orderOf(listOf(7, 0, 0, 1, 0, 0, 1, 1, 1, 1, 2)))
	wantOrders(t, "one core to several Addrs", []impl.Step{step(0, store(9, 1)), step(0, store(7, 1)), step(0, store(8, 1)), step(0, store(7, 2)), step(0, store(999999, 1)), step(0, store(0, 1))}, 1,
		orderOf(listOf(0, 0, 5), listOf(7, 0, 1, 0, 3), listOf(8, 0, 2), listOf(9, 0, 0), listOf(999999, 0, 4)))
	wantOrders(t, "loads between", []impl.Step{step(1, load(7, 0)), step(1, load(3, 0)), a, step(0, load(7, 1)), b, step(2, load(7, 1)), a, step(2, store(3, 1))}, 3,
		orderOf(listOf(3, 2, 1), listOf(7, 0, 0, 1, 2, 0, 2)))
	wantOrders(t, "cores without steps", []impl.Step{step(3, store(5, 5)), step(1, load(5, 5)), step(1, store(5, 6))}, 4, orderOf(listOf(5, 3, 0, 1, 1)))
	wantOrders(t, "loads that do not fit", []impl.Step{a, step(1, load(7, 5)), b}, 2, orderOf(listOf(7, 0, 0, 1, 1)))
}

// checkOrders: each id tells the Core and the Index that the store has in what
// the log is split into, in the order of the log, and none is there twice.
func checkOrders(t *testing.T, name string, log []impl.Step, cores int64) {
	t.Helper()
	wantOrders(t, name, log, cores, ordersByHand(log))
	split, orders := impl.SplitLog(log, cores).Cores, impl.OrdersOf(log, cores).Orders
	wantCode(t, name+": OrderFault of OrdersOf", impl.OrderFault(split, orders), impl.OK)
	count := 0
	for i, list := range orders {
		var stored []impl.Event
		for _, s := range log {
			if s.Event.Kind == impl.KindStore && s.Event.Addr == list.Addr {
				stored = append(stored, s.Event)
			}
		}
		count += len(stored)
		var told []impl.Event
		seen := map[impl.WriteId]bool{}
		for _, id := range list.Ids {
			told = append(told, split[id.Core][id.Index])
			seen[id] = true
		}
		if !slices.Equal(told, stored) || len(seen) != len(stored) || i > 0 && orders[i-1].Addr >= list.Addr {
			t.Fatalf("%s: the list %v of the log %v tells of %v", name, list, log, told)
		}
	}
	for _, s := range log {
		if s.Event.Kind == impl.KindStore {
			count--
		}
	}
	if count != 0 {
		t.Fatalf("%s: not all stores of %v have an id in %v", name, log, orders)
	}
}

func TestOrdersOfAnyLogs(t *testing.T) {
	for _, c := range someLogs() {
		for cores := c.cores; cores <= 4; cores++ {
			checkOrders(t, c.name, c.log, cores)
		}
	}
	for seed := range int64(2000) {
		count := int(seed%4) + 1
		log := mergedByHand(anyTrace(count, 8, seed%6+1, 3, seed), anyPicks(int(seed%60), seed))
		checkOrders(t, "any log", log, int64(count))
	}
	full := slices.Repeat(traceOf(manyOf(8, store(5, 5))), 4)
	checkOrders(t, "32 stores to one Addr", mergedByHand(full, anyPicks(100, 4)), 4)
	for core := range full {
		full[core] = nil
		for i := range int64(8) {
			full[core] = append(full[core], store(999999-i*4-int64(core), i))
		}
	}
	checkOrders(t, "32 stores to 32 Addrs", mergedByHand(full, anyPicks(100, 5)), 4)
}

func TestOrdersOfTellsTheFaultOfTheLog(t *testing.T) {
	for _, c := range badLogs() {
		wantNoOrders(t, c.name, c.log, c.cores, logFaultByHand(c.log, c.cores))
	}
	for _, cores := range coresOutOfBounds() {
		wantNoOrders(t, "cores out of bounds", nil, cores, impl.ErrRange)
		wantNoOrders(t, "cores out of bounds ahead of too many steps", make([]impl.Step, 33), cores, impl.ErrRange)
		wantNoOrders(t, "cores out of bounds ahead of no kind", []impl.Step{{Event: impl.Event{Kind: 2}}}, cores, impl.ErrRange)
	}
	for e, code := range faultyEvents() {
		wantNoOrders(t, "an event with a fault", []impl.Step{{Event: store(1, 1)}, {Core: 1, Event: e}}, 2, code)
		wantNoOrders(t, "the core ahead of the event", []impl.Step{{Event: store(1, 1)}, {Core: 2, Event: e}}, 2, impl.ErrRange)
		wantNoOrders(t, "the event ahead of the next core", []impl.Step{{Event: e}, {Core: -1}}, 2, code)
		wantNoOrders(t, "too many ahead of the event", append(make([]impl.Step, 32), impl.Step{Event: e}), 4, impl.ErrMany)
		wantNoOrders(t, "the event ahead of nine of one core", append(logOf(inARow(9, 1)...), impl.Step{Event: e}), 2, code)
	}
	for _, core := range []int64{-1, 2, 4, 256, 1 << 32, math.MinInt64, math.MaxInt64} {
		wantNoOrders(t, "no such core", []impl.Step{{Core: core, Event: store(1, 1)}}, 2, impl.ErrRange)
		wantNoOrders(t, "no such core behind nine of one core", append(logOf(inARow(9, 1)...), impl.Step{Core: core}), 2, impl.ErrRange)
	}
	wantNoOrders(t, "nine of one core", logOf(inARow(9, 1)...), 2, impl.ErrMany)
	wantNoOrders(t, "33 steps", logOf(slices.Repeat([]int64{0, 1, 2, 3}, 9)[:33]...), 4, impl.ErrMany)
	wantNoOrders(t, "very many steps", make([]impl.Step, 1000000), 4, impl.ErrMany)
	wantNoOrders(t, "a store of the fifth core", logOf(4, 4), 4, impl.ErrRange)
}

func TestCheckTraceWithoutEvents(t *testing.T) {
	for count := 1; count <= 4; count++ {
		wantRow(t, "no events", make([][]impl.Event, count), nil)
		wantRow(t, "empty cores and no lists", slices.Repeat([][]impl.Event{{}}, count), []impl.WriteList{})
	}
}

func TestCheckTraceOfOneCore(t *testing.T) {
	zeros := func(count int) []int64 { return make([]int64, count) }
	for _, c := range []struct {
		name   string
		events []impl.Event
		accept bool
	}{
		{"a load of 0", eventsOf(load(7, 0)), true},
		{"a load of a Value that no store has", eventsOf(load(7, 1)), false},
		{"a store", eventsOf(store(7, 1)), true},
		{"a store and its load", eventsOf(store(7, 1), load(7, 1)), true},
		{"a store and a load of another Value", eventsOf(store(7, 1), load(7, 2)), false},
		{"a store and a load of 0", eventsOf(store(7, 1), load(7, 0)), false},
		{"a load ahead of its store", eventsOf(load(7, 1), store(7, 1)), false},
		{"a load of 0 ahead of the store", eventsOf(load(7, 0), store(7, 1), load(7, 1)), true},
		{"a load of what was stored over", eventsOf(store(7, 1), store(7, 2), load(7, 1)), false},
		{"a load of what was stored last", eventsOf(store(7, 1), store(7, 2), load(7, 2)), true},
		{"a Value that is stored again", eventsOf(store(7, 1), store(7, 2), store(7, 1), load(7, 1), load(7, 1)), true},
		{"a store to another Addr between", eventsOf(store(7, 1), store(8, 2), load(7, 1), load(8, 2)), true},
		{"a load of another Addr's Value", eventsOf(store(7, 1), store(8, 2), load(7, 2)), false},
		{"a store of 0 and its load", eventsOf(store(7, 1), store(7, 0), load(7, 0)), true},
		{"a store of 0 and a load of what was there before", eventsOf(store(7, 1), store(7, 0), load(7, 1)), false},
		{"at the edges", eventsOf(store(999999, 999999), store(0, 999999), load(999999, 999999), load(0, 999999), load(999998, 0), load(1, 0)), true},
		{"eight events", append(manyOf(4, store(7, 7)), manyOf(4, load(7, 7))...), true},
		{"eight events, and the last one does not fit", append(manyOf(7, store(7, 7)), load(7, 6)), false},
	} {
		want := impl.CheckResult{Accept: c.accept}
		if c.accept {
			want.Witness = zeros(len(c.events))
		}
		wantChecked(t, c.name, traceOf(c.events), ownOrder(traceOf(c.events)), want)
		// The same core beside others that have nothing.
		if c.accept {
			want.Witness = inARow(len(c.events), 2)
		}
		wantChecked(t, c.name+", beside others", traceOf(nil, nil, c.events, nil), ownOrder(traceOf(nil, nil, c.events)), want)
	}
}

func TestLoadsOfNought(t *testing.T) {
	wantRow(t, "no store", traceOf(eventsOf(load(7, 0)), eventsOf(load(8, 0), load(7, 0))), nil, 0, 1, 1)
	wantRow(t, "ahead of the store", traceOf(eventsOf(store(7, 1)), eventsOf(load(7, 0))), orderOf(listOf(7, 0, 0)), 1, 0)
	wantRow(t, "ahead of the store and behind it", traceOf(eventsOf(store(7, 1)), eventsOf(load(7, 0), load(7, 1))), orderOf(listOf(7, 0, 0)), 1, 0, 1)
	wantNoRow(t, "behind the store", traceOf(eventsOf(store(7, 1)), eventsOf(load(7, 1), load(7, 0))), orderOf(listOf(7, 0, 0)))
	wantRow(t, "ahead of all stores", traceOf(eventsOf(store(7, 1)), eventsOf(store(7, 2)), eventsOf(load(7, 0))), orderOf(listOf(7, 1, 0, 0, 0)), 2, 1, 0)
	wantNoRow(t, "all stores must be ahead", traceOf(eventsOf(store(7, 1), store(7, 2), store(8, 1)), eventsOf(load(8, 1), load(7, 0))), orderOf(listOf(7, 0, 0, 0, 1), listOf(8, 0, 2)))
	wantNoRow(t, "a store of its own core is ahead", traceOf(eventsOf(store(7, 1), load(7, 0)), eventsOf(store(7, 2))), orderOf(listOf(7, 0, 0, 1, 0)))
	wantNoRow(t, "a store of its own core is ahead, in the other write order", traceOf(eventsOf(store(7, 1), load(7, 0)), eventsOf(store(7, 2))), orderOf(listOf(7, 1, 0, 0, 0)))
	wantRow(t, "a store of another Addr is ahead", traceOf(eventsOf(store(8, 1), load(7, 0))), orderOf(listOf(8, 0, 0)), 0, 0)
	wantRow(t, "a store of 0", traceOf(eventsOf(store(7, 0)), eventsOf(load(7, 0))), orderOf(listOf(7, 0, 0)), 0, 1)
	wantRow(t, "behind the store of 0", traceOf(eventsOf(store(7, 1), store(7, 0)), eventsOf(load(7, 0))), orderOf(listOf(7, 0, 0, 0, 1)), 0, 0, 1)
	wantRow(t, "behind the store of 0, since 1 was loaded", traceOf(eventsOf(store(7, 1), store(7, 0)), eventsOf(load(7, 1), load(7, 0))), orderOf(listOf(7, 0, 0, 0, 1)), 0, 1, 0, 1)
	wantRow(t, "ahead of both, since 1 is loaded", traceOf(eventsOf(store(7, 1), store(7, 0)), eventsOf(load(7, 0), load(7, 1))), orderOf(listOf(7, 0, 0, 0, 1)), 1, 0, 1, 0)
	wantNoRow(t, "the store of 0 is behind", traceOf(eventsOf(store(7, 0), store(7, 1)), eventsOf(load(7, 1), load(7, 0))), orderOf(listOf(7, 0, 0, 0, 1)))
	wantRow(t, "a store of 0 of another core", traceOf(eventsOf(store(7, 1), load(7, 0)), eventsOf(store(7, 0))), orderOf(listOf(7, 0, 0, 1, 0)), 0, 1, 0)
	wantNoRow(t, "a store of 0 of another core, ahead", traceOf(eventsOf(store(7, 1), load(7, 0)), eventsOf(store(7, 0))), orderOf(listOf(7, 1, 0, 0, 0)))
	wantRow(t, "stores and loads of 0 alone", traceOf(manyOf(2, store(7, 0)), manyOf(2, load(7, 0)), manyOf(2, store(7, 0))), orderOf(listOf(7, 2, 0, 0, 0, 2, 1, 0, 1)), 1, 1, 2, 0, 2, 0)
}

func TestLoadsOfAValueThatNoStoreHas(t *testing.T) {
	wantNoRow(t, "no store", traceOf(eventsOf(load(7, 1))), nil)
	wantNoRow(t, "another Value", traceOf(eventsOf(store(7, 1)), eventsOf(load(7, 2))), orderOf(listOf(7, 0, 0)))
	wantNoRow(t, "this Value at another Addr", traceOf(eventsOf(store(8, 2), store(7, 1)), eventsOf(load(7, 2))), orderOf(listOf(7, 0, 1), listOf(8, 0, 0)))
	wantNoRow(t, "the Value that another load has", traceOf(eventsOf(load(7, 2)), eventsOf(load(7, 2))), nil)
	wantNoRow(t, "the Addr as a Value", traceOf(eventsOf(store(7, 1)), eventsOf(load(7, 7))), orderOf(listOf(7, 0, 0)))
	for _, addr := range []int64{0, 6, 8, 999999} {
		wantNoRow(t, "an Addr that no store has", traceOf(eventsOf(store(7, 1)), eventsOf(load(addr, 1))), orderOf(listOf(7, 0, 0)))
		wantRow(t, "an Addr that no store has, and 0", traceOf(eventsOf(store(7, 1)), eventsOf(load(addr, 0))), orderOf(listOf(7, 0, 0)), 0, 1)
	}
}

// Which one of two stores of one Value a load stands behind is told by what
// else has to fit.
func TestAStoreOfAValueThatWasThereBefore(t *testing.T) {
	back := eventsOf(store(7, 1), store(7, 2), store(7, 1))
	own := orderOf(listOf(7, 0, 0, 0, 1, 0, 2))
	wantRow(t, "behind either one", traceOf(back, eventsOf(load(7, 1))), own, 0, 0, 0, 1)
	wantRow(t, "behind the first one", traceOf(back, eventsOf(load(7, 1), load(7, 2))), own, 0, 1, 0, 1, 0)
	wantRow(t, "behind the last one", traceOf(back, eventsOf(load(7, 2), load(7, 1))), own, 0, 0, 1, 0, 1)
	wantRow(t, "behind both", traceOf(back, eventsOf(load(7, 1), load(7, 2), load(7, 1))), own, 0, 1, 0, 1, 0, 1)
	wantNoRow(t, "once more than it was there", traceOf(back, eventsOf(load(7, 1), load(7, 2), load(7, 1), load(7, 2))), own)
	wantRow(t, "the load comes first", traceOf(eventsOf(load(7, 1)), back), orderOf(listOf(7, 1, 0, 1, 1, 1, 2)), 1, 0, 1, 1)
	apart := traceOf(eventsOf(store(7, 1)), eventsOf(store(7, 1), load(9, 5)), eventsOf(load(7, 1), store(9, 5)))
	wantRow(t, "of another core, the first one is the lower", apart, orderOf(listOf(7, 0, 0, 1, 0), listOf(9, 2, 1)), 0, 1, 2, 2, 1)
	wantRow(t, "of another core, the first one is the higher", apart, orderOf(listOf(7, 1, 0, 0, 0), listOf(9, 2, 1)), 1, 0, 2, 2, 1)
	only := traceOf(eventsOf(load(8, 3), store(7, 1)), eventsOf(store(7, 1)), eventsOf(load(7, 1), store(8, 3)))
	wantRow(t, "behind the higher one, that comes first", only, orderOf(listOf(7, 1, 0, 0, 1), listOf(8, 2, 1)), 1, 2, 2, 0, 0)
	wantNoRow(t, "behind the higher one, that comes last", only, orderOf(listOf(7, 0, 1, 1, 0), listOf(8, 2, 1)))
}

// partOf leaves the events of one Addr, and the write order of those.
func partOf(cores [][]impl.Event, orders []impl.WriteList, addr int64) ([][]impl.Event, []impl.WriteList) {
	part := make([][]impl.Event, len(cores))
	list := impl.WriteList{Addr: addr}
	for _, all := range orders {
		for _, id := range all.Ids {
			if all.Addr == addr {
				index := 0
				for _, e := range cores[id.Core][:id.Index] {
					if e.Addr == addr {
						index++
					}
				}
				list.Ids = append(list.Ids, idOf(id.Core, int64(index)))
			}
		}
	}
	for core, events := range cores {
		part[core] = slices.DeleteFunc(slices.Clone(events), func(e impl.Event) bool { return e.Addr != addr })
	}
	return part, orderOf(list)
}

func TestEachAddrAloneFitsAndBothTogetherDoNot(t *testing.T) {
	for _, c := range []orderCase{
		{"each stores and loads the other one", traceOf(eventsOf(store(7, 1), load(8, 0)), eventsOf(store(8, 1), load(7, 0))), orderOf(listOf(7, 0, 0), listOf(8, 1, 0))},
		{"what was stored later is seen, and not what was stored earlier", traceOf(eventsOf(store(7, 1), store(8, 1)), eventsOf(load(8, 1), load(7, 0))), orderOf(listOf(7, 0, 0), listOf(8, 0, 1))},
		{"each loads ahead of what the other one stores", traceOf(eventsOf(load(7, 1), store(8, 1)), eventsOf(load(8, 1), store(7, 1))), orderOf(listOf(7, 1, 1), listOf(8, 0, 1))},
		{"two see two stores the other way round", traceOf(eventsOf(store(7, 1)), eventsOf(store(8, 1)), eventsOf(load(7, 1), load(8, 0)), eventsOf(load(8, 1), load(7, 0))), orderOf(listOf(7, 0, 0), listOf(8, 1, 0))},
		{"write orders alone that go round", traceOf(eventsOf(store(7, 1), store(8, 1)), eventsOf(store(8, 2), store(7, 2))), orderOf(listOf(7, 1, 1, 0, 0), listOf(8, 0, 1, 1, 0))},
		{"three that go round", traceOf(eventsOf(store(7, 1), load(8, 0)), eventsOf(store(8, 1), store(9, 1)), eventsOf(load(9, 1), load(7, 0))), orderOf(listOf(7, 0, 0), listOf(8, 1, 0), listOf(9, 1, 1))},
		{"what one saw it tells on", traceOf(eventsOf(store(7, 1)), eventsOf(load(7, 1), store(8, 1)), eventsOf(load(8, 1), load(7, 0))), orderOf(listOf(7, 0, 0), listOf(8, 1, 1))},
	} {
		wantNoRow(t, c.name, c.cores, c.orders)
		for _, list := range c.orders {
			part, orders := partOf(c.cores, c.orders, list.Addr)
			if got := impl.CheckTrace(part, orders); !got.Accept || !impl.IsWitness(part, orders, got.Witness) {
				t.Errorf("%s: what is done at %d is %+v", c.name, list.Addr, got)
			}
		}
	}
	// The same, but for what makes it go round.
	wantRow(t, "one of both loads sees the other's store", traceOf(eventsOf(store(7, 1), load(8, 0)), eventsOf(store(8, 1), load(7, 1))), orderOf(listOf(7, 0, 0), listOf(8, 1, 0)), 0, 0, 1, 1)
	wantRow(t, "the other one of both", traceOf(eventsOf(store(7, 1), load(8, 1)), eventsOf(store(8, 1), load(7, 0))), orderOf(listOf(7, 0, 0), listOf(8, 1, 0)), 1, 1, 0, 0)
	wantRow(t, "both see the two stores in one order", traceOf(eventsOf(store(7, 1)), eventsOf(store(8, 1)), eventsOf(load(7, 1), load(8, 0)), eventsOf(load(8, 1), load(7, 1))), orderOf(listOf(7, 0, 0), listOf(8, 1, 0)), 0, 2, 2, 1, 3, 3)
	wantRow(t, "write orders that do not go round", traceOf(eventsOf(store(7, 1), store(8, 1)), eventsOf(store(8, 2), store(7, 2))), orderOf(listOf(7, 1, 1, 0, 0), listOf(8, 1, 0, 0, 1)), 1, 1, 0, 0)
}

func TestTheWriteOrderIsKept(t *testing.T) {
	two := traceOf(eventsOf(store(7, 1), store(7, 2)))
	wantRow(t, "own stores in order", two, orderOf(listOf(7, 0, 0, 0, 1)), 0, 0)
	wantNoRow(t, "against the order of own stores", two, orderOf(listOf(7, 0, 1, 0, 0)))
	wantNoRow(t, "against the order of own stores of one Value", traceOf(manyOf(2, store(7, 1))), orderOf(listOf(7, 0, 1, 0, 0)))
	wantNoRow(t, "against it with a store of another core between", traceOf(eventsOf(store(7, 1), store(7, 2)), eventsOf(store(7, 3))), orderOf(listOf(7, 0, 1, 1, 0, 0, 0)))
	wantNoRow(t, "against it in the last core", traceOf(eventsOf(store(7, 1)), nil, eventsOf(load(7, 1), store(8, 1), store(7, 2), store(7, 3))), orderOf(listOf(7, 0, 0, 2, 3, 2, 2), listOf(8, 2, 1)))
	each := traceOf(eventsOf(store(7, 1)), eventsOf(store(7, 2)), eventsOf(load(7, 1), load(7, 2)))
	wantRow(t, "as the loads see it", each, orderOf(listOf(7, 0, 0, 1, 0)), 0, 2, 1, 2)
	wantNoRow(t, "against what the loads see", each, orderOf(listOf(7, 1, 0, 0, 0)))
	cores := traceOf(manyOf(2, store(7, 5)), manyOf(2, store(7, 5)))
	wantRow(t, "the lower core first", cores, orderOf(listOf(7, 0, 0, 0, 1, 1, 0, 1, 1)), 0, 0, 1, 1)
	wantRow(t, "the higher core first", cores, orderOf(listOf(7, 1, 0, 1, 1, 0, 0, 0, 1)), 1, 1, 0, 0)
	wantRow(t, "turn about", cores, orderOf(listOf(7, 1, 0, 0, 0, 1, 1, 0, 1)), 1, 0, 1, 0)
	addrs := traceOf(eventsOf(store(9, 1)), eventsOf(store(8, 1)), eventsOf(store(7, 1)))
	wantRow(t, "stores to several Addrs go in any order", addrs, orderOf(listOf(7, 2, 0), listOf(8, 1, 0), listOf(9, 0, 0)), 0, 1, 2)
}

// What core 0 may do first must not be done first, and this shows only once
// all that the others may do is done.
func TestAFirstChoiceIsTakenBackLate(t *testing.T) {
	idle := manyOf(7, load(9, 0))
	late := append(slices.Clone(idle), load(7, 0))
	one := orderOf(listOf(7, 0, 0))
	wantRow(t, "one core", traceOf(eventsOf(store(7, 1)), late), one, append(inARow(8, 1), 0)...)
	wantRow(t, "own events ahead", traceOf(append(slices.Clone(idle), store(7, 1)), late), orderOf(listOf(7, 0, 7)), append(append(inARow(7, 0), inARow(8, 1)...), 0)...)
	wantRow(t, "own events behind", traceOf(append(eventsOf(store(7, 1)), idle...), late), one, append(inARow(8, 1), inARow(8, 0)...)...)
	wantRow(t, "the last core", traceOf(eventsOf(store(7, 1)), manyOf(8, load(9, 0)), manyOf(8, load(9, 0)), late), one, slices.Concat(inARow(8, 1, 2, 3), []int64{0})...)
	wantRow(t, "the core between", traceOf(eventsOf(store(7, 1)), manyOf(8, load(9, 0)), late, manyOf(8, load(9, 0))), one, slices.Concat(inARow(8, 1, 2), []int64{0}, inARow(8, 3))...)
	wantRow(t, "two of them", traceOf(eventsOf(store(7, 1), store(8, 1)), append(slices.Clone(idle), load(8, 0)), manyOf(8, load(9, 0)), late), orderOf(listOf(7, 0, 0), listOf(8, 0, 1)),
		slices.Concat(inARow(8, 1, 2, 3), []int64{0, 0})...)
	wantRow(t, "a later choice", traceOf(eventsOf(load(9, 0), store(7, 1), store(7, 2)), append(slices.Clone(idle), load(7, 1))), orderOf(listOf(7, 0, 1, 0, 2)), slices.Concat([]int64{0, 0}, inARow(8, 1), []int64{0})...)
	wantRow(t, "the lowest core goes last of all", traceOf(eventsOf(load(6, 6), store(7, 1)), eventsOf(load(5, 5), store(6, 6)), eventsOf(load(4, 4), store(5, 5)), eventsOf(store(4, 4), load(7, 0))), orderOf(listOf(4, 3, 0), listOf(5, 2, 1), listOf(6, 1, 1), listOf(7, 0, 1)), 3, 2, 2, 1, 1, 0, 3, 0)
	wantRow(t, "nearly all there is is tried", traceOf(append(eventsOf(store(7, 1)), idle...), append(eventsOf(store(8, 1)), idle...), append(slices.Clone(idle), load(8, 0)), late), orderOf(listOf(7, 0, 0), listOf(8, 1, 0)),
		inARow(8, 2, 1, 3, 0)...)
	wantNoRow(t, "no choice is left", traceOf(eventsOf(store(7, 1), store(8, 1)), append(slices.Clone(idle), load(7, 0)), append(eventsOf(load(8, 1)), append(manyOf(6, load(9, 0)), store(6, 1))...), append(eventsOf(load(6, 1)), late[1:]...)),
		orderOf(listOf(6, 2, 7), listOf(7, 0, 0), listOf(8, 0, 1)))
}

// Whatever is tried here comes to nothing as late as can be, and there is very
// much to try.
func TestFullTracesWithoutARowEndSoon(t *testing.T) {
	idle := manyOf(8, load(9, 0))
	for core := range 4 {
		cores := traceOf(slices.Clone(idle), slices.Clone(idle), slices.Clone(idle), slices.Clone(idle))
		wantRow(t, "all fits", cores, nil, inARow(8, 0, 1, 2, 3)...)
		cores[core][7].Value = 1
		wantNoRow(t, "the last load does not fit", cores, nil)
		for other := range cores {
			cores[other][7] = load(9, 1)
		}
		wantNoRow(t, "no last load fits", cores, nil)
		cores[core][7] = store(9, 2)
		wantNoRow(t, "no last load fits, and there is a store", cores, orderOf(listOf(9, int64(core), 7)))
	}
	var apart, full [][]impl.Event
	for core := range int64(4) {
		list := manyOf(7, store(core, 1))
		apart = append(apart, append(slices.Clone(list), load((core+1)%4, 0)))
		full = append(full, manyOf(8, store(7, 1)))
	}
	wantNoRow(t, "each stores at its own Addr and then loads 0 of the next one's", apart, ownOrder(apart))
	wantRow(t, "32 stores to one Addr", full, ownOrder(full), inARow(8, 0, 1, 2, 3)...)
	turns := ordersByHand(mergedByHand(full, slices.Repeat([]int64{3, 1, 0, 2}, 8)))
	wantRow(t, "32 stores to one Addr, turn about", full, turns, slices.Repeat([]int64{3, 1, 0, 2}, 8)...)
	last := turns[0].Ids
	last[30], last[26] = last[26], last[30]
	wantNoRow(t, "32 stores to one Addr, two of them the wrong way round", full, turns)
}

func TestFullTracesAreChecked(t *testing.T) {
	accepted, refused := 0, 0
	for seed := range int64(160) {
		var cores [][]impl.Event
		for core := range int64(4) {
			var list []impl.Event
			for _, n := range numbersOf(8, 1000000, seed*13+core) {
				list = append(list, impl.Event{Kind: n % 2, Addr: n / 10 % (seed%6 + 1), Value: n / 1000 % 3})
			}
			cores = append(cores, list)
		}
		log := playedByHand(cores, anyPicks(60, seed))
		split, orders := splitByHand(log, 4), ordersByHand(log)
		if !checkedByHand(split, orders).Accept {
			t.Fatalf("by hand there is no row of the log %v", log)
		}
		wantChecked(t, "a full log", split, orders, checkedByHand(split, orders))
		for turn := range int64(3) {
			turned := turnedLoad(split, seed+turn)
			want := checkedByHand(turned, orders)
			wantChecked(t, "a full log, one load of which is turned", turned, orders, want)
			if want.Accept {
				accepted++
			} else {
				refused++
			}
		}
		other := shuffled(orders, seed)
		wantChecked(t, "a full log, and another write order", split, other, checkedByHand(split, other))
	}
	if accepted < 10 || refused < 10 {
		t.Errorf("of the turned ones %d are accepted, and %d are not", accepted, refused)
	}
}

// allTraces are all traces of so many cores, each of up to most of the events.
func allTraces(count int, most int, events []impl.Event) [][][]impl.Event {
	lists := [][]impl.Event{nil}
	for first, end := 0, 1; most > 0; most-- {
		for _, list := range lists[first:end] {
			for _, e := range events {
				lists = append(lists, append(slices.Clone(list), e))
			}
		}
		first, end = end, len(lists)
	}
	traces := [][][]impl.Event{nil}
	for range count {
		var longer [][][]impl.Event
		for _, cores := range traces {
			for _, list := range lists {
				longer = append(longer, append(slices.Clone(cores), list))
			}
		}
		traces = longer
	}
	return traces
}

// checkAllRows: of all rows of a trace just those that fit are witnesses, and
// the first one of them is told.
func checkAllRows(t *testing.T, cores [][]impl.Event, rows [][]int64, orders []impl.WriteList) bool {
	t.Helper()
	var want impl.CheckResult
	for _, row := range rows {
		fits := fitsByHand(cores, orders, row)
		wantWitness(t, "all rows", cores, orders, row, fits)
		if fits && !want.Accept {
			want = impl.CheckResult{Accept: true, Witness: row}
		}
	}
	wantChecked(t, "all rows", cores, orders, want)
	return want.Accept
}

func TestAllSmallTracesAreAskedAllTheirRows(t *testing.T) {
	oneAddr := eventsOf(load(7, 0), load(7, 1), store(7, 0), store(7, 1))
	twoAddrs := append(eventsOf(load(0, 0), load(0, 1), store(0, 1), store(0, 0)), oneAddr...)
	traces := slices.Concat(allTraces(1, 4, oneAddr), allTraces(2, 2, twoAddrs), allTraces(3, 1, twoAddrs), allTraces(4, 1, oneAddr))
	// Of these, not all: there are too many.
	for i, cores := range slices.Concat(allTraces(2, 3, oneAddr), allTraces(3, 2, oneAddr)) {
		if i%17 == 0 {
			traces = append(traces, cores)
		}
	}
	accepted, refused := 0, 0
	for _, cores := range traces {
		rows := allRows(cores)
		for _, orders := range everyOrder(cores) {
			if checkAllRows(t, cores, rows, orders) {
				accepted++
			} else {
				refused++
			}
		}
	}
	if accepted < 1000 || refused < 1000 {
		t.Errorf("%d are accepted, and %d are not", accepted, refused)
	}
}

func TestLargerTracesAreAskedAllTheirRows(t *testing.T) {
	accepted, refused := 0, 0
	for seed := range int64(1200) {
		count, most := int(seed%3)+2, int64(4)
		if count == 3 {
			most = 3
		}
		if count == 4 {
			most = 2
		}
		cores := anyTrace(count, most, seed%4+1, 3, seed)
		log := playedByHand(cores, anyPicks(20, seed))
		if seed%3 > 0 {
			cores = splitByHand(log, int64(count))
		}
		if seed%3 == 2 {
			cores = turnedLoad(cores, seed)
		}
		rows, orders := allRows(cores), ordersByHand(log)
		for _, each := range [][]impl.WriteList{orders, shuffled(orders, seed)} {
			if checkAllRows(t, cores, rows, each) {
				accepted++
			} else {
				refused++
			}
			if by := checkedByHand(cores, each); by.Accept != checkedByRows(cores, each).Accept || !slices.Equal(by.Witness, checkedByRows(cores, each).Witness) {
				t.Fatalf("by hand %v, %v is %+v", cores, each, by)
			}
		}
	}
	if accepted < 300 || refused < 300 {
		t.Errorf("%d are accepted, and %d are not", accepted, refused)
	}
}

func TestIsWitnessOfTheDocument(t *testing.T) {
	cores := traceOf(eventsOf(store(7, 1), load(7, 2)), eventsOf(store(7, 2)), eventsOf(load(7, 1)))
	orders := orderOf(listOf(7, 0, 0, 1, 0))
	row := []int64{0, 2, 1, 0}
	wantWitness(t, "a row that fits", cores, orders, row, true)
	wantWitness(t, "a row that fits the other write order alone", cores, orderOf(listOf(7, 1, 0, 0, 0)), row, false)
	wantWitness(t, "a row of another write order", cores, orders, []int64{1, 0, 2, 0}, false)
	for _, none := range [][]int64{nil, {}, {0}, {0, 2, 1}, {2, 1, 0}, {0, 2, 1, 0, 0}, {0, 2, 1, 0, 2}, {0, 2, 1, 0, -1}, {0, 2, 1, 0, 3}, {0, 2, 1, 1}, {0, 2, 2, 0}, {0, 0, 2, 1}, {2, 0, 1, 0}, {0, 1, 2, 0}, {0, 1, 0, 2}, {0, 2, 1, 0, 0, 2, 1, 0}} {
		wantWitness(t, "no row that fits", cores, orders, none, false)
	}
	for at := range row {
		for _, core := range []int64{-1, -2, 3, 4, 5, 256, -256, row[at] + 1<<32, row[at] - 1<<32, row[at] + 256, math.MinInt64, math.MinInt64 + 1, math.MaxInt64} {
			turned := slices.Clone(row)
			turned[at] = core
			wantWitness(t, "no such core", cores, orders, turned, false)
			wantWitness(t, "no such core once more", cores, orders, slices.Insert(slices.Clone(row), at, core), false)
		}
		wantWitness(t, "too short", cores, orders, row[:at], false)
		wantWitness(t, "too short, behind", cores, orders, row[at+1:], false)
		wantWitness(t, "room behind", cores, orders, append(slices.Clone(row), 0, 1, 2)[:4], true)
	}
	for _, value := range []int64{0, 1, 3, 999999} {
		turned := cloneTrace(cores)
		turned[0][1].Value = value
		wantWitness(t, "one load has another Value", turned, orders, row, false)
	}
	wantWitness(t, "very long", cores, orders, make([]int64, 1000000), false)
	wantWitness(t, "very long behind a row that fits", cores, orders, append(slices.Clone(row), make([]int64, 1000000)...), false)
	for count := 1; count <= 4; count++ {
		wantWitness(t, "no events", make([][]impl.Event, count), nil, nil, true)
		wantWitness(t, "no events and an empty row", make([][]impl.Event, count), nil, []int64{}, true)
		for _, core := range []int64{0, 1, -1, 4} {
			wantWitness(t, "no events and a core", make([][]impl.Event, count), nil, []int64{core}, false)
		}
	}
	wantWitness(t, "a store to an Addr that loads do not have", traceOf(eventsOf(store(7, 1)), eventsOf(load(8, 0))), orderOf(listOf(7, 0, 0)), []int64{1, 0}, true)
}

func TestIsWitnessOfFaults(t *testing.T) {
	row := coresByHand(mergedByHand(mixedTrace(), nil))
	for _, c := range wrongOrders() {
		for _, each := range [][]int64{row, {1, 0, 0, 0, 0, 1, 3, 3, 3}, nil} {
			wantWitness(t, c.name, c.cores, c.orders, each, false)
		}
	}
	for _, c := range faultyTraces() {
		wantWitness(t, c.name, c.cores, nil, nil, false)
		wantWitness(t, c.name, c.cores, nil, []int64{0}, false)
	}
	wantWitness(t, "a load beyond", traceOf(eventsOf(load(1000000, 0))), nil, []int64{0}, false)
	wantWitness(t, "a load of no kind", traceOf(eventsOf(impl.Event{Kind: 2})), nil, []int64{0}, false)
	wantWitness(t, "nine loads", traceOf(manyOf(9, load(0, 0))), nil, make([]int64, 9), false)
	wantWitness(t, "five cores", make([][]impl.Event, 5), nil, nil, false)
	wantWitness(t, "five cores with events", slices.Repeat(traceOf(eventsOf(load(0, 0))), 5), nil, []int64{0, 1, 2, 3, 4}, false)
	wantWitness(t, "no core", nil, nil, nil, false)
}

// All lists of up to one core more than there are events, of all cores and of
// two that are none.
func TestIsWitnessOfAllShortRows(t *testing.T) {
	for _, c := range []orderCase{
		{"one store", traceOf(eventsOf(store(7, 1))), orderOf(listOf(7, 0, 0))},
		{"two loads", traceOf(eventsOf(load(7, 0)), eventsOf(load(7, 0))), nil},
		{"a store and two loads", traceOf(eventsOf(store(7, 1)), eventsOf(load(7, 0), load(7, 1))), orderOf(listOf(7, 0, 0))},
		{"a store of 0", traceOf(eventsOf(store(7, 0), load(7, 0)), eventsOf(load(7, 0))), orderOf(listOf(7, 0, 0))},
		{"two stores", traceOf(eventsOf(store(7, 1), load(7, 2)), eventsOf(store(7, 2), load(7, 2))), orderOf(listOf(7, 0, 0, 1, 0))},
		{"no row", traceOf(eventsOf(store(7, 1), load(8, 0)), eventsOf(store(8, 1), load(7, 0))), orderOf(listOf(7, 0, 0), listOf(8, 1, 0))},
		{"three cores", traceOf(eventsOf(store(7, 1)), nil, eventsOf(load(7, 0), store(7, 2), load(7, 2))), orderOf(listOf(7, 2, 1, 0, 0))},
	} {
		rows := [][]int64{nil}
		for first := 0; first < len(rows); first++ {
			row := rows[first]
			wantWitness(t, c.name, c.cores, c.orders, row, fitsByHand(c.cores, c.orders, row))
			if len(row) > eventCount(c.cores) {
				continue
			}
			for core := int64(-1); core <= int64(len(c.cores)); core++ {
				rows = append(rows, append(slices.Clone(row), core))
			}
		}
	}
}

// differentOrders are no two of them the same, with a fault and without.
func differentOrders() [][]impl.WriteList {
	base := mixedOrder()
	orders := [][]impl.WriteList{nil, base, base[:1], base[1:], base[:2], {{}}, {{}, {}}, {listOf(3)}, {listOf(0, 0, 0)}, {listOf(0, 0, 0, 0, 0)}, {listOf(3, 0, 2)}, {listOf(3, 3, 0)}, {listOf(3, 2, 0)}, {listOf(3, 3, 0, 0, 2), base[1], base[2]}}
	add := func(turn func(orders []impl.WriteList) []impl.WriteList) {
		orders = append(orders, turn(cloneOrders(base)))
	}
	put := func(turn func(orders []impl.WriteList)) {
		add(func(orders []impl.WriteList) []impl.WriteList { turn(orders); return orders })
	}
	for at := range base {
		put(func(orders []impl.WriteList) { orders[at].Addr++ })
		put(func(orders []impl.WriteList) { orders[at].Addr = -1 })
		put(func(orders []impl.WriteList) { orders[at].Addr += 1 << 32 })
		put(func(orders []impl.WriteList) { orders[at].Ids = nil })
		put(func(orders []impl.WriteList) { orders[at].Ids = append(orders[at].Ids, impl.WriteId{}) })
		put(func(orders []impl.WriteList) { orders[at].Ids = append(orders[at].Ids, orders[at].Ids...) })
		for place := range base[at].Ids {
			put(func(orders []impl.WriteList) { orders[at].Ids[place].Core += 5 })
			put(func(orders []impl.WriteList) { orders[at].Ids[place].Core = -1 })
			put(func(orders []impl.WriteList) { orders[at].Ids[place].Core += 1 << 32 })
			put(func(orders []impl.WriteList) { orders[at].Ids[place].Index += 5 })
			put(func(orders []impl.WriteList) { orders[at].Ids[place].Index = math.MinInt64 })
			put(func(orders []impl.WriteList) { orders[at].Ids[place].Index += 1 << 32 })
		}
		add(func(orders []impl.WriteList) []impl.WriteList { return append(orders, orders[at]) })
	}
	put(func(orders []impl.WriteList) { slices.Reverse(orders) })
	put(func(orders []impl.WriteList) { slices.Reverse(orders[1].Ids) })
	put(func(orders []impl.WriteList) {
		orders[1].Ids[0], orders[1].Ids[1] = orders[1].Ids[1], orders[1].Ids[0]
	})
	put(func(orders []impl.WriteList) {
		orders[1].Ids[1], orders[1].Ids[2] = orders[1].Ids[2], orders[1].Ids[1]
	})
	put(func(orders []impl.WriteList) { orders[0], orders[1] = orders[1], orders[0] })
	put(func(orders []impl.WriteList) { orders[0].Ids, orders[2].Ids = orders[2].Ids, orders[0].Ids })
	long := make([]impl.WriteList, 500)
	for i := range long {
		long[i].Ids = make([]impl.WriteId, 100)
	}
	turned := cloneOrders(long)
	turned[499].Ids[99].Index = 1
	return append(orders, long, turned, long[:499], []impl.WriteList{{Ids: make([]impl.WriteId, 100000)}}, []impl.WriteList{{Ids: make([]impl.WriteId, 99999)}}, make([]impl.WriteList, 100000))
}

func TestSameOrders(t *testing.T) {
	for i, a := range differentOrders() {
		for j, b := range differentOrders() {
			if got := impl.SameOrders(a, b); got != (i == j) {
				t.Errorf("SameOrders of orders %d and %d (%v, %v) is %v", i, j, a[:min(len(a), 3)], b[:min(len(b), 3)], got)
			}
		}
	}
	for _, c := range append(someOrders(), wrongOrders()...) {
		if !impl.SameOrders(c.orders, cloneOrders(c.orders)) || !impl.SameOrders(c.orders, c.orders) {
			t.Errorf("%s: the write order is not the same as itself", c.name)
		}
	}
	if !impl.SameOrders(nil, nil) || !impl.SameOrders(nil, []impl.WriteList{}) || !impl.SameOrders([]impl.WriteList{}, nil) {
		t.Error("nil and the write order without lists are not the same")
	}
	if !impl.SameOrders([]impl.WriteList{{Addr: 5}}, []impl.WriteList{{Addr: 5, Ids: []impl.WriteId{}}}) || !impl.SameOrders([]impl.WriteList{{Ids: []impl.WriteId{}}}, []impl.WriteList{{}}) {
		t.Error("nil and the list without ids are not the same")
	}
	room := orderOf(impl.WriteList{Addr: 3, Ids: listOf(3, 0, 2, 3, 0).Ids[:1]}, listOf(7))
	if !impl.SameOrders(room[:1], orderOf(listOf(3, 0, 2))) || !impl.SameOrders(orderOf(listOf(3, 0, 2)), room[:1]) {
		t.Error("what stands behind the end of a list is looked at")
	}
}

// checkSimulated: what a machine did fits the write order of its log, in the
// row in which it did it, and in none that is behind what is told.
func checkSimulated(t *testing.T, programs [][]impl.Op, lines int64, picks []int64) {
	t.Helper()
	log, cores := impl.Simulate(programs, lines, picks).Log, int64(len(programs))
	split, orders := impl.SplitLog(log, cores).Cores, impl.OrdersOf(log, cores).Orders
	got := checkedSoon(t, "simulated", split, orders)
	if got.Code != impl.OK || !got.Accept || !fitsByHand(split, orders, got.Witness) || !impl.IsWitness(split, orders, got.Witness) {
		t.Fatalf("what the programs %v do with the picks %v is judged %+v", programs, picks, got)
	}
	row := impl.PicksOf(log, cores).List
	wantWitness(t, "as the machine did it", split, orders, row, true)
	if slices.Compare(got.Witness, row) > 0 {
		t.Fatalf("the row %v of %v is behind %v", got.Witness, split, row)
	}
}

func TestWhatAMachineDidIsAccepted(t *testing.T) {
	for seed := range int64(600) {
		checkSimulated(t, anyPrograms(int(seed%4)+1, seed%7+1, seed), seed/4%4+1, anyPicks(int(seed*7%101), seed))
	}
	for seed := range int64(60) {
		var programs [][]impl.Op
		for core := range int64(4) {
			var ops []impl.Op
			for _, n := range numbersOf(8, 1000000, seed*17+core) {
				o := stores(n/10%6, n/1000%4)
				if n%2 == 0 {
					o = loads(n / 10 % 6)
				}
				ops = append(ops, o)
			}
			programs = append(programs, ops)
		}
		checkSimulated(t, programs, seed%4+1, anyPicks(60, seed))
	}
	checkSimulated(t, make([][]impl.Op, 3), 2, nil)
}

// ordersWithRoom is a write order all of whose lists have room behind them,
// with what stands there: nothing may be written into that, either.
func ordersWithRoom(orders []impl.WriteList) ([]impl.WriteList, []impl.WriteList) {
	whole := cloneOrders(append(slices.Clone(orders), listOf(1), listOf(2)))
	for i := range whole {
		whole[i].Ids = append(whole[i].Ids, idOf(8, 7), idOf(6, 5), idOf(0, 0))
	}
	given := slices.Clone(whole)
	for i, list := range orders {
		given[i].Ids = whole[i].Ids[:len(list.Ids)]
	}
	return given, whole
}

func TestNoArgumentOfTheJudgeIsChanged(t *testing.T) {
	cases := append(someOrders(), wrongOrders()...)
	for _, c := range faultyTraces() {
		if len(c.cores) < 100 {
			cases = append(cases, orderCase{c.name, c.cores, mixedOrder()})
		}
	}
	for i, c := range cases {
		orders, wholeOrders := ordersWithRoom(c.orders)
		heads, ordersBefore := slices.Clone(orders), cloneOrders(wholeOrders)
		cores := withRoom(c.cores)
		coresBefore := cloneTrace(cores)
		given := slices.Clone(cores)
		for core := range c.cores {
			given[core] = cores[core][:len(c.cores[core])]
		}
		givenBefore := slices.Clone(given)
		row := append(coresByHand(mergedShort(c.cores)), anyPicks(20, int64(i))...)
		rowBefore := slices.Clone(row)
		a, b, short := given[:len(c.cores)], orders[:len(c.orders)], row[:len(row)-20]
		impl.OrderFault(a, b)
		impl.CheckTrace(a, b)
		for size := range row {
			impl.IsWitness(a, b, row[:size])
		}
		impl.IsWitness(a, b, short)
		impl.IsWitness(a, b, impl.CheckTrace(a, b).Witness)
		impl.SameOrders(b, mixedOrder())
		impl.SameOrders(mixedOrder(), b)
		impl.SameOrders(b, b)
		if !sameRows(cores, coresBefore) || !sameRows(given, givenBefore) {
			t.Errorf("%s: the trace is changed", c.name)
		}
		if !alikeOrders(wholeOrders, ordersBefore) || !alikeOrders(orders, heads) {
			t.Errorf("%s: the write order is changed", c.name)
		}
		if !slices.Equal(row, rowBefore) {
			t.Errorf("%s: the witness is changed", c.name)
		}
	}
}

func TestNoLogIsChangedByItsOrders(t *testing.T) {
	for _, c := range append(someLogs(), badLogs()...) {
		whole := append(slices.Clone(c.log), logOf(3, 2, 1, 0, 3)...)
		before := slices.Clone(whole)
		impl.OrdersOf(whole[:len(c.log)], c.cores)
		if !slices.Equal(whole, before) {
			t.Errorf("%s: the log is changed", c.name)
		}
	}
}

// spoilIds writes into all the memory that a list has, that behind its end,
// too.
func spoilIds(ids []impl.WriteId) {
	ids = ids[:cap(ids)]
	for i := range ids {
		ids[i] = idOf(9, 9)
	}
}

func spoilOrders(orders []impl.WriteList) {
	for _, list := range orders {
		spoilIds(list.Ids)
	}
	clear(orders[:cap(orders)])
}

func TestWriteOrdersAreNewMemory(t *testing.T) {
	logs := someLogs()
	for seed := range int64(60) {
		logs = append(logs, logCase{fmt.Sprint("any log ", seed), mergedByHand(anyTrace(4, 8, seed%6+1, 3, seed), anyPicks(40, seed)), 4})
	}
	for _, c := range logs {
		log, want := slices.Clone(c.log), ordersByHand(c.log)
		other := impl.OrdersOf(log, c.cores).Orders
		for at := range want {
			got := impl.OrdersOf(log, c.cores).Orders
			spoilIds(got[at].Ids)
			_ = append(got[at].Ids, manyIds(40)...)
			got[at].Ids = want[at].Ids
			if !alikeOrders(got, want) {
				t.Fatalf("%s: two lists of one answer share memory", c.name)
			}
		}
		spoilOrders(impl.OrdersOf(log, c.cores).Orders)
		if !alikeOrders(other, want) || !slices.Equal(log, c.log) {
			t.Fatalf("%s: an answer of OrdersOf shares memory", c.name)
		}
		spoilLog(log)
		if !alikeOrders(other, want) {
			t.Fatalf("%s: the write order turns with the log", c.name)
		}
	}
}

func manyIds(count int) []impl.WriteId {
	return slices.Repeat([]impl.WriteId{idOf(5, 5)}, count)
}

func TestWitnessesAreNewMemory(t *testing.T) {
	for _, c := range someOrders() {
		cores, orders := cloneTrace(c.cores), cloneOrders(c.orders)
		first, second, third := impl.CheckTrace(cores, orders), impl.CheckTrace(cores, orders), impl.CheckTrace(cores, orders)
		want := slices.Clone(third.Witness)
		spoilNumbers(first.Witness)
		_ = append(first.Witness, 1, 2, 3)
		if !slices.Equal(second.Witness, want) || !sameRows(cores, c.cores) || !alikeOrders(orders, c.orders) {
			t.Fatalf("%s: an answer of CheckTrace shares memory", c.name)
		}
		if again := impl.CheckTrace(cores, orders); again.Accept != second.Accept || !slices.Equal(again.Witness, want) {
			t.Fatalf("%s: CheckTrace keeps what it told", c.name)
		}
		for _, list := range cores {
			spoil(list)
		}
		clear(cores)
		spoilOrders(orders)
		if !slices.Equal(third.Witness, want) {
			t.Fatalf("%s: the witness turns with the arguments", c.name)
		}
	}
}

// Rows that share memory with one another, and lists of ids that do, are judged
// as any others.
func TestArgumentsThatShareMemoryAreJudged(t *testing.T) {
	row := eventsOf(store(7, 1), load(7, 1), store(8, 1), load(7, 1), store(7, 1), load(8, 1), store(8, 1))
	cores := traceOf(row[:4], row[:4], row[2:6], row[:1])
	ids := []impl.WriteId{idOf(0, 0), idOf(1, 0), idOf(2, 2), idOf(3, 0), idOf(0, 2), idOf(1, 2), idOf(2, 0)}
	orders := orderOf(impl.WriteList{Addr: 7, Ids: ids[:4]}, impl.WriteList{Addr: 8, Ids: ids[4:]})
	wantChecked(t, "memory that is shared", cores, orders, checkedByHand(cores, orders))
	same := traceOf(eventsOf(store(7, 1), store(8, 1)))
	same = append(same, same[0])
	both := []impl.WriteId{idOf(0, 0), idOf(1, 0), idOf(0, 1), idOf(1, 1)}
	wantRow(t, "one row twice", same, orderOf(impl.WriteList{Addr: 7, Ids: both[:2]}, impl.WriteList{Addr: 8, Ids: both[2:]}), 0, 0, 1, 1)
	if !slices.Equal(both, []impl.WriteId{idOf(0, 0), idOf(1, 0), idOf(0, 1), idOf(1, 1)}) || row[6] != store(8, 1) {
		t.Error("the arguments are changed")
	}
}

// orderAnswers asks each function of the chapter.
func orderAnswers(c orderCase, log logCase) []string {
	row := coresByHand(mergedShort(c.cores))
	return []string{
		fmt.Sprint(impl.OrderFault(c.cores, c.orders), impl.CheckTrace(c.cores, c.orders), impl.IsWitness(c.cores, c.orders, row)),
		fmt.Sprint(impl.OrdersOf(log.log, log.cores)),
		fmt.Sprint(impl.SameOrders(c.orders, mixedOrder()), impl.SameOrders(c.orders, c.orders)),
	}
}

// What is kept from a search that came to nothing, or from a write order that
// was refused, would turn the answers that follow. Asked many times, since the
// order of a map is another one each time.
func TestAnswersOfTheJudgeHangOnTheArgumentsAlone(t *testing.T) {
	cases, logs := append(someOrders(), wrongOrders()...), append(badLogs(), someLogs()...)
	var before [][]string
	for i, c := range cases {
		before = append(before, orderAnswers(c, logs[i%len(logs)]))
	}
	for range 5 {
		for i := len(cases) - 1; i >= 0; i-- {
			if after := orderAnswers(cases[i], logs[i%len(logs)]); !slices.Equal(after, before[i]) {
				t.Fatalf("%s: the answers are %v, and were %v", cases[i].name, after, before[i])
			}
		}
	}
}
