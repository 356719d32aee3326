package tests

import (
	"bytes"
	"encoding/binary"
	"math"
	"slices"
	"testing"

	"loop.example/g00800/impl"
)

func frameOf(core int64, events ...impl.Event) impl.Frame {
	return impl.Frame{Core: core, Events: events}
}

// someFrames are frames without a fault: of each core, with one event up to
// eight of them.
func someFrames() []impl.Frame {
	var frames []impl.Frame
	for i, list := range someSteps() {
		if len(list) == 0 {
			continue
		}
		frames = append(frames, frameOf(int64(i%4), list...), frameOf(3, list...))
	}
	for core := range int64(4) {
		frames = append(frames, frameOf(core, store(3, 5)), frameOf(core, manyOf(8, store(999999, 999999))...))
	}
	return frames
}

// summed is data with its sum behind it, in 4 bytes, the lowest one first.
func summed(data ...byte) []byte {
	return binary.LittleEndian.AppendUint32(bytes.Clone(data), uint32(crcByBits(data)))
}

// framedBytes puts bytes, those of events or not, into a frame with a right sum.
func framedBytes(core byte, steps []byte) []byte {
	head := binary.AppendUvarint([]byte{66, core}, uint64(len(steps)))
	return summed(append(head, steps...)...)
}

func framedByHand(f impl.Frame) []byte {
	return framedBytes(byte(f.Core), packedByHand(f.Events))
}

// frameReadByHand follows the words of the document: what data has to begin
// with, then the sum, then the events.
func frameReadByHand(data []byte) impl.FrameResult {
	if len(data) < 2 || data[0] != 66 || data[1] > 3 {
		return impl.FrameResult{Code: impl.ErrText}
	}
	length, size := binary.Uvarint(data[2:])
	if size <= 0 || length < 1 || length > 200 || size != len(binary.AppendUvarint(nil, length)) {
		return impl.FrameResult{Code: impl.ErrText}
	}
	end := 2 + size + int(length)
	if len(data) < end+4 {
		return impl.FrameResult{Code: impl.ErrText}
	}
	if !bytes.Equal(summed(data[:end]...), data[:end+4]) {
		return impl.FrameResult{Code: impl.ErrSum}
	}
	list, ok := unpackedByHand(data[2+size : end])
	if !ok {
		return impl.FrameResult{Code: impl.ErrForm}
	}
	return impl.FrameResult{Frame: frameOf(int64(data[1]), list...), Size: int64(end + 4)}
}

func mustPackFrame(t *testing.T, f impl.Frame) []byte {
	t.Helper()
	got := impl.PackFrame(f)
	if got.Code != impl.OK {
		t.Fatalf("PackFrame(%v) has code %d", f, got.Code)
	}
	return got.Bytes
}

func wantFrameResult(t *testing.T, data []byte, want impl.FrameResult) {
	t.Helper()
	got := impl.ReadFrame(data)
	if got.Code != want.Code || got.Size != want.Size || got.Frame.Core != want.Frame.Core || !slices.Equal(got.Frame.Events, want.Frame.Events) {
		t.Fatalf("ReadFrame of %d bytes (%v ..) is %+v, not %+v", len(data), data[:min(len(data), 70)], got, want)
	}
}

func wantFrame(t *testing.T, data []byte, f impl.Frame, size int) {
	t.Helper()
	wantFrameResult(t, data, impl.FrameResult{Frame: f, Size: int64(size)})
}

// wantNoFrame: beside a code all else is zero.
func wantNoFrame(t *testing.T, data []byte, code int64) {
	t.Helper()
	wantFrameResult(t, data, impl.FrameResult{Code: code})
}

func TestFrameConstants(t *testing.T) {
	if impl.MarkFrame != 66 {
		t.Errorf("MarkFrame is %d", impl.MarkFrame)
	}
}

// faultyFrames are frames with a fault, each with its code.
func faultyFrames() []struct {
	name string
	f    impl.Frame
	want int64
} {
	form, wide, good := impl.Event{Kind: 2}, load(0, -1), store(3, 5)
	return []struct {
		name string
		f    impl.Frame
		want int64
	}{
		{"core -1", frameOf(-1, good), impl.ErrRange},
		{"core 4", frameOf(4, good), impl.ErrRange},
		{"core 256", frameOf(256, good), impl.ErrRange},
		{"core 1<<32", frameOf(1<<32, good), impl.ErrRange},
		{"the least core", frameOf(math.MinInt64, good), impl.ErrRange},
		{"the greatest core", frameOf(math.MaxInt64, good), impl.ErrRange},
		{"no events", frameOf(0), impl.ErrMany},
		{"an empty list of events", impl.Frame{Core: 3, Events: []impl.Event{}}, impl.ErrMany},
		{"the zero frame", impl.Frame{}, impl.ErrMany},
		{"nine events", frameOf(0, manyOf(9, good)...), impl.ErrMany},
		{"very many events", frameOf(0, manyOf(100000, good)...), impl.ErrMany},
		{"no kind", frameOf(0, form), impl.ErrForm},
		{"no kind in the last one", frameOf(3, append(manyOf(7, good), form)...), impl.ErrForm},
		{"out of bounds", frameOf(0, wide), impl.ErrRange},
		{"out of bounds in the last one", frameOf(3, append(manyOf(7, good), wide)...), impl.ErrRange},
		{"core 4 and no events", frameOf(4), impl.ErrRange},
		{"core -1 and nine events", frameOf(-1, manyOf(9, good)...), impl.ErrRange},
		{"core 4 and no kind", frameOf(4, form), impl.ErrRange},
		{"core 4, nine events and no kind", frameOf(4, manyOf(9, form)...), impl.ErrRange},
		{"nine events and no kind", frameOf(0, manyOf(9, form)...), impl.ErrMany},
		{"nine events out of bounds", frameOf(0, manyOf(9, wide)...), impl.ErrMany},
		{"no kind ahead of out of bounds", frameOf(0, good, form, wide), impl.ErrForm},
		{"out of bounds ahead of no kind", frameOf(0, good, wide, form), impl.ErrRange},
	}
}

func TestFrameFault(t *testing.T) {
	for _, f := range someFrames() {
		if got := impl.FrameFault(f); got != impl.OK {
			t.Errorf("FrameFault(%v) is %d", f, got)
		}
	}
	for _, c := range faultyFrames() {
		wantCode(t, c.name, impl.FrameFault(c.f), c.want)
	}
	for e, code := range faultyEvents() {
		for core := range int64(4) {
			wantCode(t, "an event with a fault", impl.FrameFault(frameOf(core, load(0, 0), e)), code)
		}
		wantCode(t, "core 4 ahead of an event with a fault", impl.FrameFault(frameOf(4, e)), impl.ErrRange)
		wantCode(t, "nine events ahead of their faults", impl.FrameFault(frameOf(1, manyOf(9, e)...)), impl.ErrMany)
	}
}

func TestPackFrameHasTheBytesOfTheDocument(t *testing.T) {
	cases := []struct {
		f    impl.Frame
		want []byte
	}{
		{frameOf(2, store(3, 5)), []byte{66, 2, 2, 13, 5}},
		{frameOf(0, load(0, 0)), []byte{66, 0, 2, 0, 0}},
		{frameOf(3, store(3, 5), load(1, 300)), []byte{66, 3, 5, 13, 5, 6, 172, 2}},
		{frameOf(1, manyOf(8, load(0, 0))...), append([]byte{66, 1, 16}, make([]byte, 16)...)},
	}
	for _, c := range cases {
		if got := mustPackFrame(t, c.f); !bytes.Equal(got, summed(c.want...)) {
			t.Errorf("PackFrame(%v) is %v, not %v and a sum", c.f, got, c.want)
		}
	}
	// The sum is 2287495699, and its lowest byte stands first.
	if got := mustPackFrame(t, frameOf(2, store(3, 5))); !bytes.Equal(got, []byte{66, 2, 2, 13, 5, 19, 106, 88, 136}) {
		t.Errorf("the bytes of a store of 5 at 3 by core 2 are %v", got)
	}
	for _, f := range someFrames() {
		if got := mustPackFrame(t, f); !bytes.Equal(got, framedByHand(f)) {
			t.Errorf("PackFrame(%v) is %v", f, got)
		}
	}
}

func TestPackFrameTellsTheFault(t *testing.T) {
	wantFault := func(name string, f impl.Frame, code int64) {
		t.Helper()
		if got := impl.PackFrame(f); got.Code != code || len(got.Bytes) != 0 {
			t.Errorf("%s: PackFrame is %+v, not code %d alone", name, got, code)
		}
	}
	for _, c := range faultyFrames() {
		wantFault(c.name, c.f, c.want)
	}
	for e, code := range faultyEvents() {
		wantFault("an event with a fault", frameOf(0, e), code)
		wantFault("seven events and one with a fault", frameOf(3, append(patternSteps(7, 3), e)...), code)
	}
}

func TestFramesAreReadBackWhateverStandsBehind(t *testing.T) {
	other := framedByHand(frameOf(1, load(7, 8)))
	tails := [][]byte{nil, {0}, {66}, {66, 0}, {69}, {255}, {0, 0, 0, 0}, other, other[:5], other[1:], someBytes(20), make([]byte, 300), someBytes(5000)}
	for _, f := range someFrames() {
		data := mustPackFrame(t, f)
		for _, tail := range tails {
			wantFrame(t, append(bytes.Clone(data), tail...), f, len(data))
		}
		wantFrame(t, append(bytes.Clone(data), data...), f, len(data))
		for b := range 256 {
			wantFrame(t, append(bytes.Clone(data), byte(b)), f, len(data))
		}
		// Bytes that stand only in the memory behind the slice do not count, nor do they harm.
		wantFrame(t, slices.Clip(data), f, len(data))
		wantFrame(t, append(bytes.Clone(data), other...)[:len(data)], f, len(data))
	}
	for seed := range int64(2000) {
		f := frameOf(seed%4, patternSteps(1+int(seed%8), seed)...)
		data := mustPackFrame(t, f)
		wantFrame(t, append(bytes.Clone(data), someBytes(int(seed%50))...), f, len(data))
	}
}

// Each frame starts anew: its first address is told as it is.
func TestFramesOneBehindTheOther(t *testing.T) {
	var all []byte
	for _, f := range someFrames() {
		all = append(all, mustPackFrame(t, f)...)
	}
	for _, f := range someFrames() {
		got := impl.ReadFrame(all)
		if got.Code != impl.OK || !impl.SameFrames(got.Frame, f) {
			t.Fatalf("the next frame is %+v, not %v", got, f)
		}
		all = all[got.Size:]
	}
	if len(all) != 0 {
		t.Errorf("%d bytes are left", len(all))
	}
	wantNoFrame(t, all, impl.ErrText)
}

func TestReadFrameOfNothing(t *testing.T) {
	wantNoFrame(t, nil, impl.ErrText)
	wantNoFrame(t, []byte{}, impl.ErrText)
	wantNoFrame(t, framedByHand(frameOf(0, load(0, 0)))[:0], impl.ErrText)
}

func TestReadFrameRefusesBytesThatAreCutOff(t *testing.T) {
	for _, f := range someFrames() {
		data := mustPackFrame(t, f)
		for size := range data {
			wantNoFrame(t, data[:size], impl.ErrText)
			wantNoFrame(t, data[:size:size], impl.ErrText)
		}
	}
}

func TestReadFrameRefusesAnotherFirstByte(t *testing.T) {
	for _, f := range someFrames()[:8] {
		data := mustPackFrame(t, f)
		body := bytes.Clone(data[:len(data)-4])
		for b := range 256 {
			if b == 66 {
				continue
			}
			data[0], body[0] = byte(b), byte(b)
			wantNoFrame(t, data, impl.ErrText)
			wantNoFrame(t, summed(body...), impl.ErrText)
			data[0] = 66
			wantNoFrame(t, append([]byte{byte(b)}, data...), impl.ErrText)
		}
	}
}

func TestReadFrameTakesACoreBelow4(t *testing.T) {
	steps := packedByHand([]impl.Event{store(3, 5)})
	right := framedBytes(2, steps)
	for b := range 256 {
		right[1] = byte(b)
		switch {
		case b >= 4:
			wantNoFrame(t, framedBytes(byte(b), steps), impl.ErrText)
			wantNoFrame(t, right, impl.ErrText)
		case b == 2:
			wantFrame(t, right, frameOf(2, store(3, 5)), 9)
		default:
			wantFrame(t, framedBytes(byte(b), steps), frameOf(int64(b), store(3, 5)), 9)
			wantNoFrame(t, right, impl.ErrSum)
		}
	}
}

// Behind a length of 1 to 200 the sum and the bytes are looked at, whatever
// they are; behind another one they are not.
func TestReadFrameTakesALengthOf1To200(t *testing.T) {
	for length := range 600 {
		noSteps, otherSum := int64(impl.ErrForm), int64(impl.ErrSum)
		if length < 1 || length > 200 {
			noSteps, otherSum = impl.ErrText, impl.ErrText
		}
		for _, b := range []byte{66, 128, 255} {
			data := framedBytes(1, bytes.Repeat([]byte{b}, length))
			wantNoFrame(t, data, noSteps)
			wantNoFrame(t, append(bytes.Clone(data), make([]byte, 300)...), noSteps)
			wantNoFrame(t, data[:len(data)-1], impl.ErrText)
			data[len(data)-1] ^= 1
			wantNoFrame(t, data, otherSum)
		}
	}
}

func TestReadFrameOfALengthOfNothing(t *testing.T) {
	wantNoFrame(t, framedBytes(0, nil), impl.ErrText)
	wantNoFrame(t, []byte{66, 0, 0}, impl.ErrText)
	wantNoFrame(t, []byte{66, 0, 0, 1, 2, 3, 4}, impl.ErrText)
	// The events, or a whole frame, behind the 0 do not make up for it.
	wantNoFrame(t, summed(66, 2, 0, 13, 5), impl.ErrText)
	wantNoFrame(t, append(framedBytes(2, nil), 13, 5), impl.ErrText)
	wantNoFrame(t, append(framedBytes(2, nil), framedByHand(frameOf(2, store(3, 5)))...), impl.ErrText)
}

// A longer form of the length is none, though its sum is right.
func TestReadFrameRefusesASecondFormOfTheLength(t *testing.T) {
	for _, f := range someFrames() {
		steps := packedByHand(f.Events)
		for more := range 10 {
			head := []byte{66, byte(f.Core), byte(len(steps)) + 128}
			head = append(head, bytes.Repeat([]byte{128}, more)...)
			head = append(head, 0)
			wantNoFrame(t, summed(append(head, steps...)...), impl.ErrText)
		}
	}
	wantNoFrame(t, summed(66, 2, 128, 0), impl.ErrText)
	wantNoFrame(t, summed(append([]byte{66, 2, 200, 129, 0}, make([]byte, 200)...)...), impl.ErrText)
}

// A length that is not told to its end is none, and one that is far greater
// than what stands behind it is not added to.
func TestReadFrameRefusesLengthsWithTooFewBytesBehind(t *testing.T) {
	for length := uint64(1); length <= 200; length++ {
		head := binary.AppendUvarint([]byte{66, 3}, length)
		for _, size := range []uint64{0, 1, length / 2, length - 1, length, length + 1, length + 2, length + 3} {
			wantNoFrame(t, append(bytes.Clone(head), make([]byte, size)...), impl.ErrText)
		}
		// The sum of 4 bytes of 0 fits only by chance: here it does not.
		wantNoFrame(t, append(bytes.Clone(head), make([]byte, length+4)...), impl.ErrSum)
	}
	for _, length := range []uint64{1 << 31, 1 << 32, 1 << 62, math.MaxInt64 - 9, math.MaxInt64 - 4, math.MaxInt64, math.MaxInt64 + 1, math.MaxUint64 - 5, math.MaxUint64} {
		head := binary.AppendUvarint([]byte{66, 0}, length)
		wantNoFrame(t, head, impl.ErrText)
		wantNoFrame(t, summed(append(head, 13, 5)...), impl.ErrText)
	}
	for size := range 20 {
		wantNoFrame(t, append([]byte{66, 0}, bytes.Repeat([]byte{128}, size)...), impl.ErrText)
		wantNoFrame(t, append([]byte{66, 0}, bytes.Repeat([]byte{255}, size)...), impl.ErrText)
	}
}

func TestReadFrameRefusesAnotherSum(t *testing.T) {
	for _, f := range someFrames() {
		data := mustPackFrame(t, f)
		for at := len(data) - 4; at < len(data); at++ {
			for turn := 1; turn < 256; turn++ {
				data[at] ^= byte(turn)
				wantNoFrame(t, data, impl.ErrSum)
				wantNoFrame(t, append(bytes.Clone(data), 9, 9), impl.ErrSum)
				data[at] ^= byte(turn)
			}
		}
		body, sum := data[:len(data)-4], slices.Clone(data[len(data)-4:])
		wrong := [][]byte{make([]byte, 4), {255, 255, 255, 255}, summed(body[1:]...)[len(body)-1:], summed(body[3:]...)[len(body)-3:]}
		slices.Reverse(sum)
		for _, bad := range append(wrong, sum) {
			if bytes.Equal(bad, data[len(data)-4:]) {
				t.Fatalf("the sum that has to be wrong is right: %v", data)
			}
			wantNoFrame(t, slices.Concat(body, bad), impl.ErrSum)
		}
	}
}

// The same events of another core, or one event less, have another sum.
func TestReadFrameRefusesTheSumOfAnotherFrame(t *testing.T) {
	for _, f := range someFrames() {
		data := framedByHand(f)
		others := []impl.Frame{frameOf((f.Core+1)%4, f.Events...), frameOf(f.Core, load(123, 456))}
		if len(f.Events) > 1 {
			others = append(others, frameOf(f.Core, f.Events[1:]...))
		}
		for _, other := range others {
			given := framedByHand(other)
			wantNoFrame(t, slices.Concat(data[:len(data)-4], given[len(given)-4:]), impl.ErrSum)
			wantNoFrame(t, slices.Concat(given[:len(given)-4], data[len(data)-4:]), impl.ErrSum)
		}
	}
}

// noSteps are bytes that are those of no events.
func noSteps() map[string][]byte {
	return map[string][]byte{
		"one byte":                  {13},
		"a value is missing":        {13, 5, 6},
		"a value is cut off":        {13, 5, 6, 172},
		"a number without end":      {255, 255},
		"a second form of a number": {141, 0, 5},
		"a second form of a value":  {13, 133, 0},
		"an address below 0":        {7, 5},
		"an address too great":      binary.AppendUvarint(binary.AppendUvarint(nil, packedHead(0, 1000000)), 5),
		"a value too great":         binary.AppendUvarint([]byte{13}, 1000000),
		"nine events":               packedByHand(patternSteps(9, 2)),
		"nine events of noughts":    make([]byte, 18),
		"eight events and a byte":   make([]byte, 17),
		"a whole frame":             framedByHand(frameOf(1, store(3, 5))),
		"200 bytes":                 someBytes(200),
		"200 noughts":               make([]byte, 200),
	}
}

func TestReadFrameRefusesBytesThatAreNoEvents(t *testing.T) {
	for name, steps := range noSteps() {
		if _, ok := unpackedByHand(steps); ok {
			t.Fatalf("%s: %v are events", name, steps)
		}
		for core := range byte(4) {
			data := framedBytes(core, steps)
			wantNoFrame(t, data, impl.ErrForm)
			wantNoFrame(t, append(data, 9, 9), impl.ErrForm)
		}
	}
}

// Where a frame is wrong in more than one way, what it begins with is told
// ahead of its sum, and that ahead of its events.
func TestReadFrameTellsTheFirstCode(t *testing.T) {
	for _, steps := range noSteps() {
		data := framedBytes(0, steps)
		data[len(data)-2] ^= 16
		wantNoFrame(t, data, impl.ErrSum)
		wantNoFrame(t, data[:len(data)-1], impl.ErrText)
		data[1] = 4
		wantNoFrame(t, data, impl.ErrText)
		wantNoFrame(t, framedBytes(4, steps), impl.ErrText)
		wantNoFrame(t, framedBytes(255, steps), impl.ErrText)
		data[0], data[1] = 67, 0
		wantNoFrame(t, data, impl.ErrText)
		data[0], data[2] = 66, 0
		wantNoFrame(t, data, impl.ErrText)
	}
}

// checkFrameBytes: what is read is a frame whose bytes data begins with, and
// what is refused has the code of the document.
func checkFrameBytes(t *testing.T, data []byte) {
	t.Helper()
	want := frameReadByHand(data)
	wantFrameResult(t, data, want)
	if want.Code == impl.OK && !bytes.Equal(mustPackFrame(t, want.Frame), data[:want.Size]) {
		t.Fatalf("%v begins with a second form of %v", data, want.Frame)
	}
}

func TestReadFrameOfAnyBytes(t *testing.T) {
	for _, f := range someFrames() {
		data := append(framedByHand(f), someBytes(8)...)
		end := len(data) - 12
		for at := range end + 4 {
			was := data[at]
			for b := range 256 {
				data[at] = byte(b)
				checkFrameBytes(t, data)
				if at < end {
					checkFrameBytes(t, append(summed(data[:end]...), 1, 2, 3))
				}
			}
			data[at] = was
		}
	}
	for size := range 3000 {
		data := someBytes(size)
		checkFrameBytes(t, data)
		head := []byte{66, byte(size % 5), byte(size % 256), 1}
		checkFrameBytes(t, append(head, data...))
		checkFrameBytes(t, framedBytes(byte(size%5), data[:size%25]))
	}
	edges := []byte{0, 1, 2, 3, 4, 13, 66, 127, 128, 200, 255}
	for _, a := range edges {
		for _, b := range edges {
			for _, c := range edges {
				checkFrameBytes(t, []byte{a, b, c})
				checkFrameBytes(t, framedBytes(a, []byte{b, c}))
				checkFrameBytes(t, summed(66, a, b, c))
				checkFrameBytes(t, summed(66, 1, a, b, c, 0, 5))
			}
		}
	}
}

// differentFrames are frames no two of which are the same; some have faults.
func differentFrames() []impl.Frame {
	var frames []impl.Frame
	for _, core := range []int64{0, 1, 3, 4, -1, 256, math.MinInt64, math.MaxInt64} {
		for _, list := range differentSteps() {
			frames = append(frames, frameOf(core, list...))
		}
	}
	return frames
}

func TestSameFrames(t *testing.T) {
	frames := differentFrames()
	for i, a := range frames {
		for j, b := range frames {
			if got := impl.SameFrames(a, frameOf(b.Core, slices.Clone(b.Events)...)); got != (i == j) {
				t.Errorf("SameFrames of frames %d and %d is %v", i, j, got)
			}
		}
	}
	none, empty := impl.Frame{Core: 2}, impl.Frame{Core: 2, Events: []impl.Event{}}
	if !impl.SameFrames(none, empty) || !impl.SameFrames(empty, none) || !impl.SameFrames(none, none) {
		t.Error("nil and no events are not the same")
	}
	if long := patternSteps(9, 2); !impl.SameFrames(frameOf(1, long[:4]...), frameOf(1, patternSteps(4, 2)...)) {
		t.Error("events behind the end of a frame are looked at")
	}
}

// The slices passed have room behind them, in which nothing may be written either.
func TestNoFrameIsChanged(t *testing.T) {
	calls := map[string]func(f impl.Frame){
		"FrameFault":      func(f impl.Frame) { impl.FrameFault(f) },
		"PackFrame":       func(f impl.Frame) { impl.PackFrame(f) },
		"SameFrames":      func(f impl.Frame) { impl.SameFrames(f, frameOf(f.Core, slices.Clone(f.Events)...)) },
		"SameFrames twin": func(f impl.Frame) { impl.SameFrames(frameOf(f.Core, slices.Clone(f.Events)...), f) },
	}
	for name, call := range calls {
		for _, f := range append(someFrames(), differentFrames()...) {
			whole := append(slices.Clone(f.Events), patternSteps(9, 1)...)
			before := slices.Clone(whole)
			call(frameOf(f.Core, whole[:len(f.Events)]...))
			if !slices.Equal(whole, before) {
				t.Errorf("%s changes the %d events of a frame", name, len(f.Events))
			}
		}
	}
}

func TestNoFramedBytesAreChanged(t *testing.T) {
	inputs := [][]byte{nil, {66}, {66, 1, 2, 13, 5}, someBytes(300), someBytes(5000), framedBytes(4, []byte{13, 5})}
	for _, steps := range noSteps() {
		inputs = append(inputs, framedBytes(1, steps))
	}
	for _, f := range someFrames() {
		data := framedByHand(f)
		wrong := bytes.Clone(data)
		wrong[len(wrong)-3] ^= 1
		inputs = append(inputs, data, wrong, data[:len(data)-1], append(bytes.Clone(data), data...))
	}
	for _, input := range inputs {
		whole := append(bytes.Clone(input), someBytes(50)...)
		before := bytes.Clone(whole)
		for size := range len(input) + 1 {
			impl.ReadFrame(whole[:size])
		}
		if !bytes.Equal(whole, before) {
			t.Errorf("ReadFrame changes an argument of %d bytes", len(input))
		}
	}
}

func TestPackedFramesAreNewMemory(t *testing.T) {
	for _, f := range someFrames() {
		checkNewBytes(t, f.Events, framedByHand(f), func(list []impl.Event) []byte { return mustPackFrame(t, frameOf(f.Core, list...)) })
	}
}

func TestFramesThatAreReadAreNewMemory(t *testing.T) {
	for _, f := range someFrames() {
		data := framedByHand(f)
		first, second := impl.ReadFrame(data).Frame, impl.ReadFrame(data).Frame
		for i := range data {
			data[i] ^= 255
		}
		if !slices.Equal(first.Events, f.Events) {
			t.Fatalf("the events of %v turn with the argument", f)
		}
		for i := range first.Events {
			first.Events[i] = impl.Event{Kind: 9, Addr: 9, Value: 9}
		}
		_ = append(first.Events, impl.Event{Kind: 9})
		if !slices.Equal(second.Events, f.Events) {
			t.Fatalf("two answers of ReadFrame about %v share memory", f)
		}
		wantFrame(t, framedByHand(f), f, len(data))
	}
}

// frameAnswers asks each function of the chapter about a frame and some bytes.
func frameAnswers(f impl.Frame, data []byte) []any {
	packed, read := impl.PackFrame(f), impl.ReadFrame(data)
	same := impl.SameFrames(f, read.Frame)
	return []any{impl.FrameFault(f), packed.Code, string(packed.Bytes), read.Code, read.Size, read.Frame.Core, [8]impl.Event(append(slices.Clone(read.Frame.Events), make([]impl.Event, 8)...)), same}
}

func TestAnswersAboutFramesHangOnTheArgumentsAlone(t *testing.T) {
	frames := append(someFrames(), differentFrames()...)
	dataOf := func(i int) []byte {
		f := someFrames()[i%len(someFrames())]
		data := append(framedByHand(f), 9, 9)
		if i%3 == 1 {
			data[len(data)-5] ^= 1
		}
		return data[:len(data)-i%5]
	}
	var before [][]any
	for i, f := range frames {
		before = append(before, frameAnswers(f, dataOf(i)))
	}
	for i := len(frames) - 1; i >= 0; i-- {
		for k, answer := range frameAnswers(frames[i], dataOf(i)) {
			if answer != before[i][k] {
				t.Errorf("answer %d about frame %d is %v, and was %v", k, i, answer, before[i][k])
			}
		}
	}
}
