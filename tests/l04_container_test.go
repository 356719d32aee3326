package tests

import (
	"bytes"
	"fmt"
	"math"
	"slices"
	"testing"

	"loop.example/g00800/impl"
)

// someTraces are traces without a fault: of one core up to four, with cores
// without events first, in the middle and last, and with eight events in each.
func someTraces() [][][]impl.Event {
	few, full := patternSteps(3, 11), patternSteps(8, 12)
	wide := manyOf(8, store(999999, 999999))
	swing := []impl.Event{store(999999, 0), load(0, 999999), store(999999, 1), load(0, 127), load(5, 128)}
	traces := [][][]impl.Event{
		{{store(3, 5), load(3, 5), store(4, 1)}, {}, {load(0, 0)}},
		{few, full, swing, wide}, {wide, wide, wide, wide}, {full, full, full, full},
		{nil, few}, {few, nil}, {nil, few, full}, {few, nil, full}, {few, full, nil}, {nil, nil, swing, nil},
		{nil, full, nil, full}, {full, nil, full, nil}, {full, nil, nil, few}, {nil, nil, nil, few}, {few, nil, nil, nil},
	}
	for count := 1; count <= 4; count++ {
		none := make([][]impl.Event, count)
		traces = append(traces, none, slices.Repeat([][]impl.Event{{}}, count), slices.Repeat([][]impl.Event{few}, count))
		for seed := range int64(6) {
			traces = append(traces, patternTrace(count, seed))
		}
	}
	for size := 1; size <= 8; size++ {
		row := patternSteps(size, int64(size))
		traces = append(traces, [][]impl.Event{row}, [][]impl.Event{manyOf(size, load(0, 0)), row})
	}
	return traces
}

// patternTrace is the same trace at each call, with rows of any size.
func patternTrace(count int, seed int64) [][]impl.Event {
	cores := make([][]impl.Event, count)
	for i := range cores {
		cores[i] = patternSteps(int(seed*7+int64(i)*5+seed/9)%9, seed*4+int64(i))
	}
	return cores
}

// piecesOf cuts a row by the words of the document.
func piecesOf(list []impl.Event, block int) [][]impl.Event {
	var pieces [][]impl.Event
	for len(list) > 0 {
		size := min(block, len(list))
		pieces = append(pieces, list[:size])
		list = list[size:]
	}
	return pieces
}

func framesByHand(cores [][]impl.Event, block int) []impl.Frame {
	var frames []impl.Frame
	for core, list := range cores {
		for _, piece := range piecesOf(list, block) {
			frames = append(frames, frameOf(int64(core), piece...))
		}
	}
	return frames
}

// bodyOf is what stands ahead of the end: whether or not the frames may stand
// there.
func bodyOf(count int, frames ...impl.Frame) []byte {
	body := []byte{67, byte(count)}
	for _, f := range frames {
		body = append(body, framedByHand(f)...)
	}
	return body
}

// ended lays an end behind a body, with a right sum.
func ended(body []byte, frames int, events int) []byte {
	return summed(append(bytes.Clone(body), 69, byte(frames), byte(events))...)
}

// fileOfFrames is a file with a right end, whether or not the frames may stand
// in it.
func fileOfFrames(count int, frames ...impl.Frame) []byte {
	events := 0
	for _, f := range frames {
		events += len(f.Events)
	}
	return ended(bodyOf(count, frames...), len(frames), events)
}

func fileByHand(cores [][]impl.Event, block int) []byte {
	return fileOfFrames(len(cores), framesByHand(cores, block)...)
}

// decodedByHand follows the words of the document, code by code.
func decodedByHand(file []byte) impl.TraceResult {
	if len(file) > 2000 {
		return impl.TraceResult{Code: impl.ErrMany}
	}
	if len(file) < 2 || file[0] != 67 || file[1] < 1 || file[1] > 4 {
		return impl.TraceResult{Code: impl.ErrText}
	}
	cores, rest := make([][]impl.Event, file[1]), file[2:]
	frames, events, ahead := 0, 0, int64(0)
	for len(rest) > 0 && rest[0] == 66 {
		found := frameReadByHand(rest)
		if found.Code != impl.OK {
			return impl.TraceResult{Code: found.Code}
		}
		core := found.Frame.Core
		if core >= int64(len(cores)) || core < ahead || len(cores[core])+len(found.Frame.Events) > 8 {
			return impl.TraceResult{Code: impl.ErrForm}
		}
		cores[core] = append(cores[core], found.Frame.Events...)
		frames, events, ahead = frames+1, events+len(found.Frame.Events), core
		rest = rest[found.Size:]
	}
	switch {
	case len(rest) != 7 || rest[0] != 69:
		return impl.TraceResult{Code: impl.ErrText}
	case int(rest[1]) != frames || int(rest[2]) != events:
		return impl.TraceResult{Code: impl.ErrForm}
	case !bytes.Equal(summed(file[:len(file)-4]...), file):
		return impl.TraceResult{Code: impl.ErrSum}
	}
	return impl.TraceResult{Cores: cores}
}

func mustEncode(t *testing.T, cores [][]impl.Event, block int64) []byte {
	t.Helper()
	got := impl.EncodeTrace(cores, block)
	if got.Code != impl.OK {
		t.Fatalf("EncodeTrace(%v, %d) has code %d", cores, block, got.Code)
	}
	return got.Bytes
}

func sameRows(a [][]impl.Event, b [][]impl.Event) bool {
	return slices.EqualFunc(a, b, slices.Equal)
}

// wantDecoded: beside a code all else is zero.
func wantDecoded(t *testing.T, name string, file []byte, want impl.TraceResult) {
	t.Helper()
	got := impl.DecodeTrace(file)
	if got.Code != want.Code || !sameRows(got.Cores, want.Cores) {
		t.Fatalf("%s: DecodeTrace of %d bytes (%v ..) is %+v, not %+v", name, len(file), file[:min(len(file), 90)], got, want)
	}
}

func wantTrace(t *testing.T, name string, file []byte, cores [][]impl.Event) {
	t.Helper()
	wantDecoded(t, name, file, impl.TraceResult{Cores: cores})
}

func wantNoTrace(t *testing.T, name string, file []byte, code int64) {
	t.Helper()
	wantDecoded(t, name, file, impl.TraceResult{Code: code})
}

func TestFileConstants(t *testing.T) {
	got := []int64{impl.MarkFile, impl.MarkEnd, impl.MaxFile}
	if want := []int64{67, 69, 2000}; !slices.Equal(got, want) {
		t.Errorf("the constants are %v, not %v", got, want)
	}
}

func TestEncodeTraceHasTheBytesOfTheDocument(t *testing.T) {
	row := []impl.Event{store(3, 5), load(1, 300), load(1, 0)}
	cases := []struct {
		name  string
		cores [][]impl.Event
		block int64
		want  []byte
	}{
		{"one core without events", [][]impl.Event{nil}, 1, summed(67, 1, 69, 0, 0)},
		{"four cores without events", make([][]impl.Event, 4), 8, summed(67, 4, 69, 0, 0)},
		{"one event", [][]impl.Event{{store(3, 5)}}, 8, summed(append(append([]byte{67, 1}, summed(66, 0, 2, 13, 5)...), 69, 1, 1)...)},
		// Each piece starts anew: its first address is told as it is.
		{"two pieces, and a core without events", [][]impl.Event{nil, row}, 2, summed(slices.Concat([]byte{67, 2}, summed(66, 1, 5, 13, 5, 6, 172, 2), summed(66, 1, 2, 4, 0), []byte{69, 2, 3})...)},
		{"one piece", [][]impl.Event{row, nil}, 3, summed(slices.Concat([]byte{67, 2}, summed(66, 0, 7, 13, 5, 6, 172, 2, 0, 0), []byte{69, 1, 3})...)},
	}
	for _, c := range cases {
		if got := mustEncode(t, c.cores, c.block); !bytes.Equal(got, c.want) {
			t.Errorf("%s: the file is %v, not %v", c.name, got, c.want)
		}
	}
	// The sum is that of all of the file, and its lowest byte stands first.
	if got := mustEncode(t, [][]impl.Event{nil}, 1); !bytes.Equal(got, []byte{67, 1, 69, 0, 0, 202, 253, 156, 23}) {
		t.Errorf("the file of one core without events is %v", got)
	}
	for _, cores := range someTraces() {
		for block := 1; block <= 8; block++ {
			if got := mustEncode(t, cores, int64(block)); !bytes.Equal(got, fileByHand(cores, block)) {
				t.Errorf("the file of %v in blocks of %d is %v", cores, block, got)
			}
		}
	}
}

func TestFramesInCountsTheFrames(t *testing.T) {
	for size, want := range map[int][]int64{
		0: {0, 0, 0, 0, 0, 0, 0, 0}, 1: {1, 1, 1, 1, 1, 1, 1, 1}, 3: {3, 2, 1, 1, 1, 1, 1, 1},
		7: {7, 4, 3, 2, 2, 2, 1, 1}, 8: {8, 4, 3, 2, 2, 2, 2, 1},
	} {
		for i, count := range want {
			row := patternSteps(size, 5)
			for cores := int64(1); cores <= 4; cores++ {
				got := impl.FramesIn(slices.Repeat([][]impl.Event{row}, int(cores)), int64(i+1))
				if got != (impl.IntResult{Value: count * cores}) {
					t.Errorf("FramesIn of %d cores of %d events in blocks of %d is %+v", cores, size, i+1, got)
				}
			}
		}
	}
	for _, cores := range someTraces() {
		for block := 1; block <= 8; block++ {
			got, file := impl.FramesIn(cores, int64(block)), mustEncode(t, cores, int64(block))
			if got != (impl.IntResult{Value: int64(len(framesByHand(cores, block)))}) || got.Value != int64(file[len(file)-6]) {
				t.Errorf("FramesIn(%v, %d) is %+v", cores, block, got)
			}
		}
	}
}

// faultyTraces are traces with a fault, each with its code.
func faultyTraces() []struct {
	name  string
	cores [][]impl.Event
	want  int64
} {
	good, long := patternSteps(8, 1), manyOf(9, load(0, 0))
	form, wide := []impl.Event{{Kind: 2}}, []impl.Event{store(0, -1)}
	return []struct {
		name  string
		cores [][]impl.Event
		want  int64
	}{
		{"no core", nil, impl.ErrMany},
		{"an empty list of cores", [][]impl.Event{}, impl.ErrMany},
		{"five cores", slices.Repeat([][]impl.Event{good}, 5), impl.ErrMany},
		{"five cores without events", make([][]impl.Event, 5), impl.ErrMany},
		{"very many cores", make([][]impl.Event, 100000), impl.ErrMany},
		{"five cores, the first one out of bounds", [][]impl.Event{wide, nil, nil, nil, nil}, impl.ErrMany},
		{"five cores, the first one of no kind", [][]impl.Event{form, nil, nil, nil, nil}, impl.ErrMany},
		{"nine events", [][]impl.Event{long}, impl.ErrMany},
		{"nine events in the last core", [][]impl.Event{good, nil, good, long}, impl.ErrMany},
		{"very many events", [][]impl.Event{manyOf(100000, load(0, 0))}, impl.ErrMany},
		{"no kind", [][]impl.Event{form}, impl.ErrForm},
		{"no kind in the last event", [][]impl.Event{nil, append(patternSteps(7, 1), form...)}, impl.ErrForm},
		{"out of bounds", [][]impl.Event{wide}, impl.ErrRange},
		{"an address out of bounds in the last core", [][]impl.Event{good, nil, good, {load(1000000, 0)}}, impl.ErrRange},
		{"no kind ahead of nine events", [][]impl.Event{form, long}, impl.ErrForm},
		{"nine events ahead of no kind", [][]impl.Event{long, form}, impl.ErrMany},
		{"out of bounds ahead of no kind", [][]impl.Event{wide, form}, impl.ErrRange},
		{"no kind ahead of out of bounds", [][]impl.Event{nil, form, wide}, impl.ErrForm},
	}
}

func wantNoFile(t *testing.T, name string, cores [][]impl.Event, block int64, code int64) {
	t.Helper()
	if got := impl.EncodeTrace(cores, block); got.Code != code || len(got.Bytes) != 0 {
		t.Errorf("%s: EncodeTrace in blocks of %d is %+v, not code %d alone", name, block, got, code)
	}
	if got := impl.FramesIn(cores, block); got != (impl.IntResult{Code: code}) {
		t.Errorf("%s: FramesIn in blocks of %d is %+v, not code %d alone", name, block, got, code)
	}
}

func badBlocks() []int64 {
	return []int64{0, 9, -1, -8, 10, 255, 256, 257, 1<<32 + 1, 1 << 62, math.MaxInt64 - 7, math.MaxInt64, math.MinInt64, math.MinInt64 + 1}
}

func TestEachFaultOfATraceIsTold(t *testing.T) {
	for _, c := range faultyTraces() {
		// The fault is told ahead of a block that leaves its bounds.
		for _, block := range append(badBlocks(), 1, 2, 7, 8) {
			wantNoFile(t, c.name, c.cores, block, c.want)
		}
	}
	for e, code := range faultyEvents() {
		wantNoFile(t, "an event with a fault", [][]impl.Event{nil, {load(1, 1), e}}, 8, code)
		wantNoFile(t, "an event with a fault ahead of the block", [][]impl.Event{{e}}, 0, code)
	}
}

func TestABlockIs1To8(t *testing.T) {
	for _, cores := range someTraces() {
		for _, block := range badBlocks() {
			wantNoFile(t, "a trace without a fault", cores, block, impl.ErrRange)
		}
	}
}

func TestTracesAreReadBackInWhateverBlocks(t *testing.T) {
	traces := someTraces()
	for seed := range int64(300) {
		traces = append(traces, patternTrace(1+int(seed%4), seed))
	}
	for _, cores := range traces {
		for block := int64(1); block <= 8; block++ {
			wantTrace(t, fmt.Sprint("blocks of ", block), mustEncode(t, cores, block), cores)
		}
	}
}

// Bytes that stand only in the memory behind the slice do not count.
func TestFilesAreReadBackWhateverMemoryIsBehind(t *testing.T) {
	for _, cores := range someTraces() {
		file := mustEncode(t, cores, 3)
		wantTrace(t, "clipped", slices.Clip(file), cores)
		wantTrace(t, "with room", append(bytes.Clone(file), someBytes(3000)...)[:len(file)], cores)
	}
}

// cutsOf are all ways to cut a row into pieces.
func cutsOf(list []impl.Event) [][][]impl.Event {
	if len(list) == 0 {
		return [][][]impl.Event{nil}
	}
	var all [][][]impl.Event
	for size := 1; size <= len(list); size++ {
		for _, rest := range cutsOf(list[size:]) {
			all = append(all, append([][]impl.Event{list[:size]}, rest...))
		}
	}
	return all
}

func framesOfPieces(core int64, pieces [][]impl.Event) []impl.Frame {
	var frames []impl.Frame
	for _, piece := range pieces {
		frames = append(frames, frameOf(core, piece...))
	}
	return frames
}

// The pieces of one core need not be as long as they could be, nor alike.
func TestFilesInAnyPiecesAreRead(t *testing.T) {
	row := patternSteps(8, 21)
	for _, pieces := range cutsOf(row) {
		wantTrace(t, "one core", fileOfFrames(1, framesOfPieces(0, pieces)...), [][]impl.Event{row})
		frames := append([]impl.Frame{frameOf(0, load(1, 2))}, framesOfPieces(2, pieces)...)
		frames = append(frames, frameOf(3, store(4, 4), load(1, 1)), frameOf(3, load(1, 1)))
		want := [][]impl.Event{{load(1, 2)}, nil, row, {store(4, 4), load(1, 1), load(1, 1)}}
		wantTrace(t, "four cores", fileOfFrames(4, frames...), want)
	}
	for _, first := range cutsOf(row[:4]) {
		for _, second := range cutsOf(row[3:8]) {
			frames := append(framesOfPieces(0, first), framesOfPieces(1, second)...)
			wantTrace(t, "two cores", fileOfFrames(2, frames...), [][]impl.Event{row[:4], row[3:8]})
		}
	}
}

// The events of a core stand in the order of its frames, whatever it is.
func TestFramesOfOneCoreAreReadInTheirOrder(t *testing.T) {
	a, b, c := patternSteps(3, 31), patternSteps(2, 32), patternSteps(1, 33)
	for _, rows := range [][3][]impl.Event{{a, b, c}, {a, c, b}, {b, a, c}, {b, c, a}, {c, a, b}, {c, b, a}, {c, c, c}} {
		file := fileOfFrames(2, frameOf(1, rows[0]...), frameOf(1, rows[1]...), frameOf(1, rows[2]...))
		wantTrace(t, "three frames", file, [][]impl.Event{nil, slices.Concat(rows[:]...)})
	}
}

func TestDecodeTraceOfNothing(t *testing.T) {
	wantNoTrace(t, "nil", nil, impl.ErrText)
	wantNoTrace(t, "no byte", []byte{}, impl.ErrText)
	wantNoTrace(t, "no byte, with room", fileByHand([][]impl.Event{nil}, 1)[:0], impl.ErrText)
	for b := range 256 {
		wantNoTrace(t, "one byte", []byte{byte(b)}, impl.ErrText)
		wantNoTrace(t, "one byte, with room", []byte{byte(b), 1, 69, 0, 0}[:1], impl.ErrText)
		wantNoTrace(t, "two bytes", []byte{67, byte(b)}, impl.ErrText)
	}
}

func TestDecodeTraceRefusesAnotherFirstByte(t *testing.T) {
	for _, cores := range someTraces() {
		file := fileByHand(cores, 2)
		body := bytes.Clone(file[:len(file)-4])
		for b := range 256 {
			if b == 67 {
				continue
			}
			file[0], body[0] = byte(b), byte(b)
			wantNoTrace(t, "another first byte", file, impl.ErrText)
			wantNoTrace(t, "another first byte, with its sum", summed(body...), impl.ErrText)
		}
		file[0] = 67
		wantNoTrace(t, "a byte ahead", append([]byte{0}, file...), impl.ErrText)
		wantNoTrace(t, "twice the first byte", append([]byte{67}, file...), impl.ErrText)
		wantNoTrace(t, "without the first byte", file[1:], impl.ErrText)
	}
}

func TestDecodeTraceTakesOneCoreToFour(t *testing.T) {
	for b := range 256 {
		file := ended([]byte{67, byte(b)}, 0, 0)
		framed := fileOfFrames(b, frameOf(0, store(3, 5)))
		if b < 1 || b > 4 {
			wantNoTrace(t, "cores without events", file, impl.ErrText)
			wantNoTrace(t, "a core with an event", framed, impl.ErrText)
			continue
		}
		want := make([][]impl.Event, b)
		wantTrace(t, "cores without events", file, want)
		want[0] = []impl.Event{store(3, 5)}
		wantTrace(t, "a core with an event", framed, want)
	}
}

// A file that is cut off has not its end; where the cut is in a frame, that
// cannot be read.
func TestDecodeTraceRefusesFilesThatAreCutOff(t *testing.T) {
	for _, cores := range someTraces() {
		for _, block := range []int{1, 3, 8} {
			file := fileByHand(cores, block)
			for size := range file {
				wantNoTrace(t, "cut off", file[:size], impl.ErrText)
				wantNoTrace(t, "cut off", file[:size:size], impl.ErrText)
			}
		}
	}
}

// badFrames are bytes that begin with MarkFrame, and are no frame, each with
// the code of ReadFrame.
func badFrames() []struct {
	name string
	data []byte
	want int64
} {
	type bad = struct {
		name string
		data []byte
		want int64
	}
	list := []bad{
		{"the mark alone", []byte{66}, impl.ErrText},
		{"a core of 4", framedBytes(4, []byte{13, 5}), impl.ErrText},
		{"a core of 255", framedBytes(255, []byte{13, 5}), impl.ErrText},
		{"no byte of events", framedBytes(0, nil), impl.ErrText},
		{"201 bytes of events", framedBytes(0, make([]byte, 201)), impl.ErrText},
		{"a second form of the length", summed(66, 0, 130, 0, 13, 5), impl.ErrText},
		{"more length than bytes", []byte{66, 0, 200, 1, 13, 5, 0, 0, 0, 0}, impl.ErrText},
	}
	right := framedBytes(0, []byte{13, 5})
	for at := len(right) - 4; at < len(right); at++ {
		wrong := bytes.Clone(right)
		wrong[at] ^= 1
		list = append(list, bad{"a wrong sum", wrong, impl.ErrSum})
	}
	for at := 3; at < len(right)-4; at++ {
		wrong := bytes.Clone(right)
		wrong[at] ^= 64
		list = append(list, bad{"an event that was turned", wrong, impl.ErrSum})
	}
	for name, steps := range noSteps() {
		list = append(list, bad{"no events: " + name, framedBytes(0, steps), impl.ErrForm})
	}
	return list
}

func TestDecodeTraceTellsTheCodeOfAFrame(t *testing.T) {
	good := framedByHand(frameOf(0, load(7, 7)))
	for _, bad := range badFrames() {
		for count := byte(1); count <= 4; count++ {
			head := []byte{67, count}
			wantNoTrace(t, bad.name+", at once", ended(slices.Concat(head, bad.data), 1, 1), bad.want)
			wantNoTrace(t, bad.name+", behind another", ended(slices.Concat(head, good, bad.data), 2, 2), bad.want)
			wantNoTrace(t, bad.name+", ahead of another", ended(slices.Concat(head, bad.data, good), 2, 2), bad.want)
		}
	}
	// What is cut off is the frame itself: the end behind it is not there.
	for size := 1; size < len(good); size++ {
		wantNoTrace(t, "a frame that is cut off", slices.Concat([]byte{67, 1}, good[:size]), impl.ErrText)
		wantNoTrace(t, "the second one is cut off", slices.Concat([]byte{67, 1}, good, good[:size]), impl.ErrText)
	}
}

func TestDecodeTraceRefusesAFrameOfACoreThatIsNotThere(t *testing.T) {
	for count := 1; count <= 4; count++ {
		for core := range int64(4) {
			last := frameOf(core, store(3, 5), load(3, 5))
			want := make([][]impl.Event, count)
			if core >= int64(count) {
				wantNoTrace(t, "a core that is not there", fileOfFrames(count, last), impl.ErrForm)
				wantNoTrace(t, "behind one that is there", fileOfFrames(count, frameOf(0, load(1, 1)), last), impl.ErrForm)
				continue
			}
			want[core] = last.Events
			wantTrace(t, "a core that is there", fileOfFrames(count, last), want)
		}
	}
}

func TestDecodeTraceRefusesCoresThatGoBack(t *testing.T) {
	one := load(5, 5)
	for a := range int64(4) {
		for b := range int64(4) {
			for c := range int64(4) {
				file := fileOfFrames(4, frameOf(a, one), frameOf(b, one), frameOf(c, one))
				if b < a || c < b {
					wantNoTrace(t, "a core goes back", file, impl.ErrForm)
					continue
				}
				want := make([][]impl.Event, 4)
				for _, core := range []int64{a, b, c} {
					want[core] = append(want[core], one)
				}
				wantTrace(t, "no core goes back", file, want)
			}
		}
	}
	// It is the frame ahead that counts, not only the first one, nor the last core.
	wantNoTrace(t, "0 1 0", fileOfFrames(2, frameOf(0, one), frameOf(1, one), frameOf(0, one)), impl.ErrForm)
	wantNoTrace(t, "1 0", fileOfFrames(2, frameOf(1, one), frameOf(0, one)), impl.ErrForm)
}

func TestOneCoreHasEightEventsAndNotNine(t *testing.T) {
	row := patternSteps(9, 41)
	for core := range int64(4) {
		for cut := 1; cut < 8; cut++ {
			eight := []impl.Frame{frameOf(core, row[:cut]...), frameOf(core, row[cut:8]...)}
			want := make([][]impl.Event, 4)
			want[core] = row[:8]
			wantTrace(t, "eight events", fileOfFrames(4, eight...), want)
			nine := []impl.Frame{eight[0], frameOf(core, row[cut:]...)}
			wantNoTrace(t, "nine events", fileOfFrames(4, nine...), impl.ErrForm)
			wantNoTrace(t, "eight events and one", fileOfFrames(4, append(eight, frameOf(core, row[8]))...), impl.ErrForm)
		}
		wantNoTrace(t, "all eight at once and one", fileOfFrames(4, frameOf(core, row[:8]...), frameOf(core, row[8])), impl.ErrForm)
		wantNoTrace(t, "twice eight", fileOfFrames(4, frameOf(core, row[:8]...), frameOf(core, row[:8]...)), impl.ErrForm)
		wantNoTrace(t, "nine of one", fileOfFrames(4, framesOfPieces(core, piecesOf(row, 1))...), impl.ErrForm)
	}
	// Eight of each core are not too many, though two cores have more together.
	all := [][]impl.Event{row[:8], row[1:], row[:8], row[1:]}
	for block := 1; block <= 8; block++ {
		wantTrace(t, "eight of each", fileByHand(all, block), all)
		more := append(framesByHand(all, block), frameOf(3, load(0, 0)))
		wantNoTrace(t, "nine of the last", fileOfFrames(4, more...), impl.ErrForm)
	}
}

func TestTheEndBeginsWithItsByte(t *testing.T) {
	for _, cores := range someTraces() {
		file := fileByHand(cores, 4)
		at := len(file) - 7
		body := bytes.Clone(file[:len(file)-4])
		for b := range 256 {
			if b == 69 {
				continue
			}
			file[at], body[at] = byte(b), byte(b)
			wantNoTrace(t, "another byte", file, impl.ErrText)
			wantNoTrace(t, "another byte, with its sum", summed(body...), impl.ErrText)
		}
	}
	one := bodyOf(1, frameOf(0, store(3, 5)))
	for b := range 256 {
		if b != 66 {
			wantNoTrace(t, "a byte ahead of the end", ended(append(bytes.Clone(one), byte(b)), 1, 1), impl.ErrText)
		}
	}
	// A frame behind the end is not read.
	file := append(ended([]byte{67, 1}, 0, 0), framedByHand(frameOf(0, store(3, 5)))...)
	wantNoTrace(t, "a frame behind the end", file, impl.ErrText)
	wantNoTrace(t, "a frame and an end behind the end", ended(file, 1, 1), impl.ErrText)
}

func TestTheEndHasSevenBytes(t *testing.T) {
	for _, cores := range someTraces() {
		file := fileByHand(cores, 2)
		body := file[:len(file)-7]
		for size := range 7 {
			wantNoTrace(t, "too few bytes", file[:len(body)+size], impl.ErrText)
		}
		// A sum that would be right of what is ahead of it does not help.
		wantNoTrace(t, "no events told", summed(append(bytes.Clone(body), 69, file[len(body)+1])...), impl.ErrText)
		wantNoTrace(t, "nothing told", summed(append(bytes.Clone(body), 69)...), impl.ErrText)
		wantNoTrace(t, "the sum alone", summed(body...), impl.ErrText)
		wantNoTrace(t, "one more told", summed(append(bytes.Clone(file[:len(file)-4]), 0)...), impl.ErrText)
		for b := range 256 {
			wantNoTrace(t, "a byte behind", append(bytes.Clone(file), byte(b)), impl.ErrText)
		}
		wantNoTrace(t, "twice the end", append(bytes.Clone(file), file[len(body):]...), impl.ErrText)
		wantNoTrace(t, "twice the file", append(bytes.Clone(file), file...), impl.ErrText)
		wantNoTrace(t, "many bytes behind", append(bytes.Clone(file), someBytes(500)...), impl.ErrText)
	}
}

func TestTheEndTellsHowManyThereAre(t *testing.T) {
	for _, cores := range someTraces() {
		frames := framesByHand(cores, 3)
		events := len(slices.Concat(cores...))
		body := bodyOf(len(cores), frames...)
		for n := range 256 {
			if n != len(frames) {
				wantNoTrace(t, "a wrong number of frames", ended(body, n, events), impl.ErrForm)
			}
			if n != events {
				wantNoTrace(t, "a wrong number of events", ended(body, len(frames), n), impl.ErrForm)
			}
			if n != len(frames) && n != events {
				wantNoTrace(t, "both wrong", ended(body, n, n), impl.ErrForm)
			}
		}
		if len(frames) != events {
			wantNoTrace(t, "one for the other", ended(body, events, len(frames)), impl.ErrForm)
		}
	}
}

func TestTheEndHasTheSumOfAllAheadOfIt(t *testing.T) {
	for _, cores := range someTraces() {
		file := fileByHand(cores, 5)
		for at := len(file) - 4; at < len(file); at++ {
			for turn := 1; turn < 256; turn++ {
				file[at] ^= byte(turn)
				wantNoTrace(t, "a wrong sum", file, impl.ErrSum)
				file[at] ^= byte(turn)
			}
		}
		body, sum := file[:len(file)-4], slices.Clone(file[len(file)-4:])
		slices.Reverse(sum)
		ahead := len(body) - 3
		for name, bad := range map[string][]byte{
			"noughts": make([]byte, 4), "ones": {255, 255, 255, 255}, "turned round": sum,
			"of the end alone":      summed(body[ahead:]...)[3:],
			"of what is ahead":      summed(body[:ahead]...)[ahead:],
			"without the file mark": summed(body[1:]...)[len(body)-1:],
			"without the head":      summed(body[2:]...)[len(body)-2:],
		} {
			wantNoTrace(t, "the sum "+name, slices.Concat(body, bad), impl.ErrSum)
		}
	}
	// Where all else is right, another count of cores is found out by the sum.
	file := fileByHand([][]impl.Event{{store(3, 5)}}, 1)
	for count := byte(2); count <= 4; count++ {
		file[1] = count
		wantNoTrace(t, "another count of cores", file, impl.ErrSum)
	}
}

func TestAFileHas2000BytesAtMost(t *testing.T) {
	good := fileByHand(slices.Repeat([][]impl.Event{manyOf(8, store(999999, 999999))}, 4), 1)
	long := []byte{67, 4}
	for len(long) < 2000 {
		long = append(long, framedBytes(0, make([]byte, 200))...)
	}
	wrongSum := bytes.Clone(long)
	wrongSum[206] ^= 1
	for _, c := range []struct {
		name string
		data []byte
		want int64
	}{
		{"noughts", make([]byte, 3000), impl.ErrText},
		{"no rule", someBytes(3000), impl.ErrText},
		{"a head", append([]byte{67, 4}, make([]byte, 3000)...), impl.ErrText},
		{"a file ahead", append(bytes.Clone(good), make([]byte, 3000)...), impl.ErrText},
		{"five cores", append([]byte{67, 5}, long[2:]...), impl.ErrText},
		{"frames of no events", long, impl.ErrForm},
		{"a wrong sum", wrongSum, impl.ErrSum},
	} {
		for _, size := range []int{1998, 1999, 2000} {
			wantNoTrace(t, c.name, c.data[:size], c.want)
			wantNoTrace(t, c.name, slices.Clip(c.data[:size]), c.want)
		}
		for size := 2001; size <= len(c.data); size += 37 {
			wantNoTrace(t, c.name, c.data[:size], impl.ErrMany)
		}
	}
	wantNoTrace(t, "very many bytes", make([]byte, 1000000), impl.ErrMany)
	wantNoTrace(t, "very many bytes of a file", append(bytes.Clone(good), make([]byte, 100000)...), impl.ErrMany)
	wantTrace(t, "much room", append(make([]byte, 0, 100000), good...), decodedByHand(good).Cores)
}

// Where a file is wrong in more than one way, what stands ahead is told: the
// head, then frame by frame its code and its core, then the end, what it
// tells, and its sum.
func TestDecodeTraceTellsTheFirstCode(t *testing.T) {
	good, far := framedByHand(frameOf(0, load(7, 7))), framedByHand(frameOf(3, load(7, 7)))
	none := framedBytes(0, []byte{13})
	farNone, turned := framedBytes(3, []byte{13}), bytes.Clone(good)
	turned[len(turned)-1] ^= 1
	farTurned := bytes.Clone(far)
	farTurned[len(farTurned)-1] ^= 1
	cut, head := good[:len(good)-1], []byte{67, 1}
	full := framedByHand(frameOf(0, manyOf(8, load(7, 7))...))
	fullTurned := bytes.Clone(full)
	fullTurned[len(fullTurned)-1] ^= 1
	end, otherSum := summed(69, 9, 9), []byte{69, 9, 9, 0, 0, 0, 0}
	for _, c := range []struct {
		name  string
		parts [][]byte
		want  int64
	}{
		{"0 cores, and no frame of those", [][]byte{{67, 0}, turned, end}, impl.ErrText},
		{"another first byte, and a wrong sum", [][]byte{{66, 1}, turned, end}, impl.ErrText},
		{"a wrong sum, then no events", [][]byte{head, turned, none, end}, impl.ErrSum},
		{"no events, then a wrong sum", [][]byte{head, none, turned, end}, impl.ErrForm},
		{"no events, then cut off", [][]byte{head, none, cut}, impl.ErrForm},
		{"a wrong sum, then cut off", [][]byte{head, turned, cut}, impl.ErrSum},
		{"a wrong sum of a core that is not there", [][]byte{head, farTurned, end}, impl.ErrSum},
		{"no events of a core that is not there", [][]byte{head, farNone, end}, impl.ErrForm},
		{"a core that is not there, then a wrong sum", [][]byte{head, far, turned, end}, impl.ErrForm},
		{"a core that is not there, then cut off", [][]byte{head, far, cut}, impl.ErrForm},
		{"a core that is not there cut off", [][]byte{head, far[:len(far)-1]}, impl.ErrText},
		{"a wrong sum of one core with nine events", [][]byte{head, full, turned, end}, impl.ErrSum},
		{"nine events, then a wrong sum", [][]byte{head, full, good, turned, end}, impl.ErrForm},
		{"nine events, then cut off", [][]byte{head, good, full, cut}, impl.ErrForm},
		{"nine events, the last ones with a wrong sum", [][]byte{head, good, fullTurned}, impl.ErrSum},
		{"a wrong sum of a core that goes back", [][]byte{{67, 4}, far, turned, end}, impl.ErrSum},
		{"a core that goes back, then a wrong sum", [][]byte{{67, 4}, far, good, farTurned, end}, impl.ErrForm},
		{"a core that goes back, and no end", [][]byte{{67, 4}, far, good}, impl.ErrForm},
		{"a core that is not there, and no end", [][]byte{head, far}, impl.ErrForm},
		{"a wrong sum, and no end", [][]byte{head, turned}, impl.ErrSum},
		{"wrong numbers, and a byte behind", [][]byte{head, good, end, {0}}, impl.ErrText},
		{"wrong numbers, and a byte too few", [][]byte{head, good, end[:6]}, impl.ErrText},
		{"wrong numbers behind another byte", [][]byte{head, good, {70}, end[1:]}, impl.ErrText},
		{"wrong numbers, and a wrong sum", [][]byte{head, good, otherSum}, impl.ErrForm},
		{"a wrong number of frames, and a wrong sum", [][]byte{head, good, {69, 2, 1, 0, 0, 0, 0}}, impl.ErrForm},
		{"a wrong number of events, and a wrong sum", [][]byte{head, good, {69, 1, 2, 0, 0, 0, 0}}, impl.ErrForm},
		{"a wrong sum, and a byte behind", [][]byte{head, good, {69, 1, 1, 0, 0, 0, 0, 0}}, impl.ErrText},
		{"a wrong sum alone", [][]byte{head, good, {69, 1, 1, 0, 0, 0, 0}}, impl.ErrSum},
	} {
		file := slices.Concat(c.parts...)
		wantNoTrace(t, c.name, file, c.want)
		wantNoTrace(t, c.name+", and too many bytes", append(file, make([]byte, 2001-len(file))...), impl.ErrMany)
	}
}

func checkFileBytes(t *testing.T, name string, file []byte) {
	t.Helper()
	wantDecoded(t, name, file, decodedByHand(file))
}

func TestDecodeTraceOfAnyBytes(t *testing.T) {
	for i, cores := range someTraces() {
		file := fileByHand(cores, 1+i%8)
		end := len(file) - 4
		// Long files are turned to fewer other bytes, for the time it takes.
		step := 1 + len(file)/16
		for at := range file {
			was := file[at]
			for b := (i + at) % step; b < 256; b += step {
				file[at] = byte(b)
				checkFileBytes(t, "a byte is turned", file)
				if at < end {
					checkFileBytes(t, "a byte is turned, with its sum", summed(file[:end]...))
				}
			}
			file[at] = was
			checkFileBytes(t, "a byte is gone", slices.Concat(file[:at], file[at+1:]))
			checkFileBytes(t, "a byte is there twice", slices.Concat(file[:at+1], file[at:]))
		}
	}
	for size := range 2100 {
		data := someBytes(size)
		checkFileBytes(t, "no rule", data)
		checkFileBytes(t, "a head", append([]byte{67, byte(size % 6)}, data...))
		checkFileBytes(t, "a head and an end", ended(append([]byte{67, 1}, data[:size%9]...), size%2, 0))
	}
}

// Any frames one behind the other, with an end that tells how many there are.
func TestDecodeTraceOfAnyFrames(t *testing.T) {
	for seed := range int64(3000) {
		var frames []impl.Frame
		for i, b := range someBytes(int(seed%7) + int(seed/7)%5) {
			frames = append(frames, frameOf(int64(b>>6)*int64(i)/5, patternSteps(1+int(b%4), seed)...))
		}
		checkFileBytes(t, "any frames", fileOfFrames(1+int(seed%4), frames...))
		slices.SortStableFunc(frames, func(a, b impl.Frame) int { return int(a.Core - b.Core) })
		checkFileBytes(t, "frames in order", fileOfFrames(4, frames...))
	}
}

// withRoom is a trace whose rows, and whose list of rows, have room behind
// them, in which nothing may be written either.
func withRoom(cores [][]impl.Event) [][]impl.Event {
	whole := make([][]impl.Event, 0, len(cores)+3)
	for _, list := range append(slices.Clone(cores), nil, patternSteps(2, 9), nil) {
		whole = append(whole, append(slices.Clone(list), patternSteps(9, 8)...))
	}
	return whole
}

func TestNoTraceIsChangedByItsFile(t *testing.T) {
	traces := someTraces()
	for _, c := range faultyTraces() {
		if len(c.cores) < 100 {
			traces = append(traces, c.cores)
		}
	}
	for _, cores := range traces {
		whole := withRoom(cores)
		before := cloneTrace(whole)
		given := slices.Clone(whole)
		for i := range cores {
			given[i] = whole[i][:len(cores[i])]
		}
		for block := int64(0); block <= 9; block++ {
			impl.EncodeTrace(given[:len(cores)], block)
			impl.FramesIn(given[:len(cores)], block)
		}
		for i := range given {
			if i < len(cores) && len(given[i]) != len(cores[i]) {
				t.Errorf("row %d of %v is another one now", i, cores)
			}
			given[i] = given[i][:len(before[i])]
		}
		if !sameRows(whole, before) || !sameRows(given, before) {
			t.Errorf("the trace %v is changed", cores)
		}
	}
}

func TestNoFileIsChanged(t *testing.T) {
	inputs := [][]byte{nil, {67}, {67, 1}, {67, 5}, someBytes(300), someBytes(2000), someBytes(2001)}
	for _, bad := range badFrames() {
		inputs = append(inputs, ended(slices.Concat([]byte{67, 1}, bad.data), 1, 1))
	}
	for _, cores := range someTraces() {
		file := fileByHand(cores, 3)
		wrong := bytes.Clone(file)
		wrong[len(wrong)-2] ^= 1
		inputs = append(inputs, file, wrong, file[:len(file)-1], append(bytes.Clone(file), 0))
	}
	for _, input := range inputs {
		whole := append(bytes.Clone(input), someBytes(50)...)
		before := bytes.Clone(whole)
		impl.DecodeTrace(whole[:len(input)])
		if !bytes.Equal(whole, before) {
			t.Errorf("DecodeTrace changes an argument of %d bytes", len(input))
		}
	}
}

func TestFilesAreNewMemory(t *testing.T) {
	for _, cores := range someTraces() {
		for block := int64(1); block <= 8; block++ {
			given, want := cloneTrace(cores), fileByHand(cores, int(block))
			first, second := mustEncode(t, given, block), mustEncode(t, given, block)
			for _, list := range given {
				for i := range list {
					list[i] = store(77, 77)
				}
			}
			clear(given)
			if !bytes.Equal(first, want) {
				t.Fatalf("the file of %v turns with the argument", cores)
			}
			for i := range first {
				first[i] ^= 255
			}
			_ = append(first, 1, 2, 3)
			if !bytes.Equal(second, want) || !bytes.Equal(mustEncode(t, cores, block), want) {
				t.Fatalf("two answers about %v share memory", cores)
			}
		}
	}
}

// spoil writes into all the memory that a row has, that behind its end, too.
func spoil(list []impl.Event) {
	list = list[:cap(list)]
	for i := range list {
		list[i] = impl.Event{Kind: 9, Addr: 9, Value: 9}
	}
}

func TestTracesThatAreReadAreNewMemory(t *testing.T) {
	for _, cores := range someTraces() {
		file := fileByHand(cores, 2)
		for core := range cores {
			first, second := impl.DecodeTrace(file).Cores, impl.DecodeTrace(file).Cores
			want := cloneTrace(cores)
			spoil(first[core])
			want[core] = slices.Clone(first[core])
			if !sameRows(first, want) {
				t.Fatalf("two lists of one answer share memory: %v", cores)
			}
			clear(first[:cap(first)])
			if !sameRows(second, cores) {
				t.Fatalf("two answers of DecodeTrace share memory: %v", cores)
			}
		}
		answer := impl.DecodeTrace(file).Cores
		for i := range file {
			file[i] ^= 255
		}
		if !sameRows(answer, cores) {
			t.Fatalf("the trace %v turns with the argument", cores)
		}
	}
}

// Rows that share memory with one another are packed as any others.
func TestRowsThatShareMemory(t *testing.T) {
	row := patternSteps(16, 51)
	cores := [][]impl.Event{row[:8], row[4:12], row[:8], row[3:4]}
	for block := 1; block <= 8; block++ {
		file := mustEncode(t, cores, int64(block))
		if !bytes.Equal(file, fileByHand(cores, block)) {
			t.Errorf("the file in blocks of %d is %v", block, file)
		}
		wantTrace(t, "rows that share memory", file, cores)
	}
	if !slices.Equal(row, patternSteps(16, 51)) {
		t.Error("the rows are changed")
	}
}

// fileAnswers asks each function of the chapter about a trace and some bytes.
func fileAnswers(cores [][]impl.Event, block int64, file []byte) []string {
	return []string{
		fmt.Sprint(impl.EncodeTrace(cores, block)),
		fmt.Sprint(impl.FramesIn(cores, block)),
		fmt.Sprint(impl.DecodeTrace(file)),
	}
}

// What is kept from a file that was refused half-way would turn the answers
// that follow.
func TestAnswersAboutFilesHangOnTheArgumentsAlone(t *testing.T) {
	traces := someTraces()
	fileAt := func(i int) []byte {
		file := fileByHand(traces[i], 1+i%8)
		file[len(file)-1-i%len(file)] ^= byte(i % 3)
		return file[:len(file)-i%2]
	}
	var before [][]string
	for i, cores := range traces {
		before = append(before, fileAnswers(cores, int64(i%10), fileAt(i)))
	}
	for i := len(traces) - 1; i >= 0; i-- {
		if after := fileAnswers(traces[i], int64(i%10), fileAt(i)); !slices.Equal(after, before[i]) {
			t.Errorf("the answers about trace %d are %v, and were %v", i, after, before[i])
		}
	}
}
