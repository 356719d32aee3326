package tests

import (
	"bytes"
	"fmt"
	"math"
	"slices"
	"strings"
	"testing"

	"loop.example/g00800/impl"
)

// fileTextByHand follows the words of the document, as all the functions by
// hand below.
func fileTextByHand(file []byte) impl.TextResult {
	trace := decodedByHand(file)
	if trace.Code != impl.OK {
		return impl.TextResult{Code: trace.Code}
	}
	return impl.TextResult{Text: printedByHand(trace.Cores)}
}

func textFileByHand(text string, block int64) impl.BytesResult {
	trace := parsedByHand(text)
	if trace.Code != impl.OK {
		return impl.BytesResult{Code: trace.Code}
	}
	if block < 1 || block > 8 {
		return impl.BytesResult{Code: impl.ErrRange}
	}
	return impl.BytesResult{Bytes: fileByHand(trace.Cores, int(block))}
}

func fileCheckedByHand(file []byte, orders []impl.WriteList) impl.CheckResult {
	trace := decodedByHand(file)
	if trace.Code != impl.OK {
		return impl.CheckResult{Code: trace.Code}
	}
	if code := orderFaultByHand(trace.Cores, orders); code != impl.OK {
		return impl.CheckResult{Code: code}
	}
	return checkedByHand(trace.Cores, orders)
}

// runFaultByHand is the first code that RunAll is to tell.
func runFaultByHand(programs [][]impl.Op, lines int64, picks []int64, block int64) int64 {
	code := programsFaultByHand(programs)
	switch {
	case code != impl.OK:
		return code
	case lines < 1 || lines > 4:
		return impl.ErrRange
	case len(picks) > 100:
		return impl.ErrMany
	case block < 1 || block > 8:
		return impl.ErrRange
	}
	return impl.OK
}

// verdictByHand has no caches: the log is that of one memory.
func verdictByHand(programs [][]impl.Op, lines int64, picks []int64, block int64) impl.Verdict {
	if code := runFaultByHand(programs, lines, picks, block); code != impl.OK {
		return impl.Verdict{Code: code}
	}
	log, cores := oneMemory(programs, picks), int64(len(programs))
	split, orders := splitByHand(log, cores), ordersByHand(log)
	checked := checkedByHand(split, orders)
	return impl.Verdict{Accept: checked.Accept, File: fileByHand(split, int(block)), Log: log, Orders: orders, Witness: checked.Witness}
}

func alikeVerdicts(a impl.Verdict, b impl.Verdict) bool {
	return a.Code == b.Code && a.Accept == b.Accept && bytes.Equal(a.File, b.File) && slices.Equal(a.Log, b.Log) && alikeOrders(a.Orders, b.Orders) && slices.Equal(a.Witness, b.Witness)
}

func cloneVerdict(v impl.Verdict) impl.Verdict {
	v.File, v.Log, v.Orders, v.Witness = bytes.Clone(v.File), slices.Clone(v.Log), cloneOrders(v.Orders), slices.Clone(v.Witness)
	return v
}

func wantFileText(t *testing.T, name string, file []byte, want impl.TextResult) {
	t.Helper()
	if got := impl.FileToText(file); got != want {
		t.Fatalf("%s: FileToText of %d bytes (%v ..) is %+v, not %+v", name, len(file), file[:min(len(file), 90)], got, want)
	}
}

// wantTextFile: beside a code all else is zero.
func wantTextFile(t *testing.T, name string, text string, block int64, want impl.BytesResult) {
	t.Helper()
	if got := impl.TextToFile(text, block); got.Code != want.Code || !bytes.Equal(got.Bytes, want.Bytes) {
		t.Fatalf("%s: TextToFile of %d bytes (%q ..) in blocks of %d is %+v, not %+v", name, len(text), text[:min(len(text), 90)], block, got, want)
	}
}

// wantFileChecked asks whether what is told is a witness, too.
func wantFileChecked(t *testing.T, name string, file []byte, orders []impl.WriteList, want impl.CheckResult) {
	t.Helper()
	got := impl.CheckFile(file, orders)
	if got.Code != want.Code || got.Accept != want.Accept || !slices.Equal(got.Witness, want.Witness) {
		t.Fatalf("%s: CheckFile of %d bytes (%v ..) and %d lists is %+v, not %+v", name, len(file), file[:min(len(file), 90)], len(orders), got, want)
	}
	if cores := decodedByHand(file).Cores; got.Accept && (!fitsByHand(cores, orders, got.Witness) || !impl.IsWitness(cores, orders, got.Witness)) {
		t.Fatalf("%s: %v is told to be a row that fits %v, %v", name, got.Witness, cores, orders)
	}
}

func wantVerdict(t *testing.T, name string, programs [][]impl.Op, lines int64, picks []int64, block int64, want impl.Verdict) {
	t.Helper()
	if got := impl.RunAll(programs, lines, picks, block); !alikeVerdicts(got, want) {
		t.Fatalf("%s: RunAll of the programs %v with %d lines, the picks %v and blocks of %d is %+v, not %+v", name, programs[:min(len(programs), 9)], lines, picks, block, got, want)
	}
}

func wantNoVerdict(t *testing.T, name string, programs [][]impl.Op, lines int64, picks []int64, block int64, code int64) {
	t.Helper()
	if byHand := runFaultByHand(programs, lines, picks, block); byHand != code {
		t.Fatalf("%s: by hand the code is %d, not %d", name, byHand, code)
	}
	wantVerdict(t, name, programs, lines, picks, block, impl.Verdict{Code: code})
}

type fileCase struct {
	name string
	file []byte
	want int64
}

// unreadFiles are bytes that are no file, each with its code.
func unreadFiles() []fileCase {
	row := patternSteps(8, 3)
	cores := traceOf(row[:3], row, nil)
	good, one := fileByHand(cores, 2), frameOf(1, store(3, 5))
	turned := func(at int) []byte {
		file := bytes.Clone(good)
		file[at] ^= 1
		return file
	}
	long := func(size int) []byte { return append(bytes.Clone(good), make([]byte, size-len(good))...) }
	files := []fileCase{
		{"nil", nil, impl.ErrText},
		{"an empty list", []byte{}, impl.ErrText},
		{"the mark alone", []byte{67}, impl.ErrText},
		{"another mark", append([]byte{66}, good[1:]...), impl.ErrText},
		{"no cores", summed(67, 0, 69, 0, 0), impl.ErrText},
		{"five cores", summed(67, 5, 69, 0, 0), impl.ErrText},
		{"no end", bodyOf(2, one), impl.ErrText},
		{"cut off", good[:len(good)-1], impl.ErrText},
		{"cut in half", good[:len(good)/2], impl.ErrText},
		{"a byte behind the end", long(len(good) + 1), impl.ErrText},
		{"2000 bytes", long(2000), impl.ErrText},
		{"2001 bytes", long(2001), impl.ErrMany},
		{"many bytes", long(100000), impl.ErrMany},
		{"many bytes of no file", someBytes(2001), impl.ErrMany},
		{"a core that is not there", fileOfFrames(1, one), impl.ErrForm},
		{"a core that goes back", fileOfFrames(2, one, frameOf(0, load(1, 1))), impl.ErrForm},
		{"nine events of one core", fileOfFrames(2, frameOf(1, row...), one), impl.ErrForm},
		{"another number of frames", ended(bodyOf(2, one), 2, 1), impl.ErrForm},
		{"another number of events", ended(bodyOf(2, one), 1, 2), impl.ErrForm},
		{"an event that was turned", turned(5), impl.ErrSum},
		{"another sum of the first frame", turned(2 + len(framedByHand(framesByHand(cores, 2)[0])) - 1), impl.ErrSum},
		{"another sum of the end", turned(len(good) - 1), impl.ErrSum},
	}
	for _, bad := range badFrames() {
		files = append(files, fileCase{bad.name, ended(slices.Concat([]byte{67, 2}, bad.data), 1, 1), bad.want})
	}
	return files
}

type textCase struct {
	name string
	text string
	want int64
}

// unreadTexts are no texts of traces, each with its code.
func unreadTexts() []textCase {
	good := printedByHand(mixedTrace())
	texts := []textCase{
		{"no byte", "", impl.ErrText},
		{"a letter", "x", impl.ErrText},
		{"no core", "trace 0\n", impl.ErrText},
		{"a core less than told", "trace 2\ncore 0\n", impl.ErrText},
		{"a core more than told", "trace 1\ncore 0\ncore 1\n", impl.ErrText},
		{"five cores", "trace 5\n" + coreLines(0, 1, 2, 3, 4), impl.ErrText},
		{"numbered wrong", "trace 2\n" + coreLines(1, 0), impl.ErrText},
		{"nine events", "trace 1\ncore 0\n" + strings.Repeat("r 0x0 0\n", 9), impl.ErrText},
		{"cut off", good[:len(good)-1], impl.ErrText},
		{"a line feed behind", good + "\n", impl.ErrText},
		{"a blank behind", good + " ", impl.ErrText},
		{"twice", good + good, impl.ErrText},
		{"2000 bytes", good + strings.Repeat("\n", 2000-len(good)), impl.ErrText},
		{"2001 bytes", good + strings.Repeat("\n", 2001-len(good)), impl.ErrMany},
		{"many bytes", strings.Repeat("trace 1\n", 100000), impl.ErrMany},
		{"a file", string(fileByHand(mixedTrace(), 8)), impl.ErrText},
	}
	for _, line := range badLines() {
		texts = append(texts, textCase{"the line " + line, "trace 1\ncore 0\n" + line + "\n", impl.ErrText})
	}
	return texts
}

func TestFileToTextTellsTheCodeOfTheFile(t *testing.T) {
	told := map[int64]bool{}
	for _, c := range unreadFiles() {
		wantDecoded(t, c.name, c.file, impl.TraceResult{Code: c.want})
		wantFileText(t, c.name, c.file, impl.TextResult{Code: c.want})
		told[c.want] = true
	}
	for _, code := range []int64{impl.ErrMany, impl.ErrText, impl.ErrForm, impl.ErrSum} {
		if !told[code] {
			t.Errorf("no file has the code %d", code)
		}
	}
}

func TestFileToTextHasTheTextOfTheDocument(t *testing.T) {
	row := eventsOf(store(31, 5), load(31, 5), load(0, 999999))
	for _, c := range []struct {
		name  string
		cores [][]impl.Event
		want  string
	}{
		{"one core without events", traceOf(nil), "trace 1\ncore 0\n"},
		{"two cores without events", traceOf(nil, nil), "trace 2\ncore 0\ncore 1\n"},
		{"three cores without events", traceOf(nil, nil, nil), "trace 3\ncore 0\ncore 1\ncore 2\n"},
		{"four cores without events", make([][]impl.Event, 4), "trace 4\ncore 0\ncore 1\ncore 2\ncore 3\n"},
		{"one event", traceOf(eventsOf(store(31, 5))), "trace 1\ncore 0\nw 0x1f 5\n"},
		{"three events", traceOf(row), "trace 1\ncore 0\nw 0x1f 5\nr 0x1f 5\nr 0x0 999999\n"},
		{"the first core has none", traceOf(nil, row), "trace 2\ncore 0\ncore 1\nw 0x1f 5\nr 0x1f 5\nr 0x0 999999\n"},
		{"the last core has none", traceOf(row, row[:1], nil), "trace 3\ncore 0\nw 0x1f 5\nr 0x1f 5\nr 0x0 999999\ncore 1\nw 0x1f 5\ncore 2\n"},
	} {
		for block := 1; block <= 8; block++ {
			wantFileText(t, c.name, fileByHand(c.cores, block), impl.TextResult{Text: c.want})
		}
	}
	// 67, one core, a frame of the bytes of the event and its sum, and the end.
	file := summed(append(append([]byte{67, 1}, summed(66, 0, 2, 125, 5)...), 69, 1, 1)...)
	wantFileText(t, "bytes", file, impl.TextResult{Text: "trace 1\ncore 0\nw 0x1f 5\n"})
	wantFileText(t, "no frame", summed(67, 2, 69, 0, 0), impl.TextResult{Text: "trace 2\ncore 0\ncore 1\n"})
}

// tracesForAll are some without any events, some with as many as there can be,
// and others.
func tracesForAll() [][][]impl.Event {
	traces := append(someTraces(), mixedTrace())
	for seed := range int64(150) {
		traces = append(traces, patternTrace(1+int(seed%4), seed), anyTrace(1+int(seed%4), 8, 3, 3, seed))
	}
	return traces
}

// checkPassages: a file and a text of one trace say the same.
func checkPassages(t *testing.T, cores [][]impl.Event, block int64) {
	t.Helper()
	file, text := fileByHand(cores, int(block)), printedByHand(cores)
	wantFileText(t, "a file of a trace", file, impl.TextResult{Text: text})
	wantTextFile(t, "a text of a trace", text, block, impl.BytesResult{Bytes: file})
	wantFileText(t, "a file of a text", impl.TextToFile(text, block).Bytes, impl.TextResult{Text: text})
	wantTextFile(t, "a text of a file", impl.FileToText(file).Text, block, impl.BytesResult{Bytes: file})
	wantFileText(t, "EncodeTrace", mustEncode(t, cores, block), impl.TextResult{Text: mustPrint(t, cores)})
	wantTextFile(t, "PrintTrace", mustPrint(t, cores), block, impl.BytesResult{Bytes: mustEncode(t, cores, block)})
	wantTrace(t, "of a text", impl.TextToFile(text, block).Bytes, cores)
	wantTold(t, "of a file", impl.FileToText(file).Text, cores)
}

func TestAFileAndATextOfOneTraceSayTheSame(t *testing.T) {
	for _, cores := range tracesForAll() {
		for block := int64(1); block <= 8; block++ {
			checkPassages(t, cores, block)
		}
	}
	for _, cores := range allTraces(2, 2, eventsOf(load(0, 0), store(0, 1), store(31, 5))) {
		checkPassages(t, cores, 1)
		checkPassages(t, cores, 8)
	}
}

// A file need not have been cut into blocks of one size.
func TestFilesInUnevenBlocksHaveTheirText(t *testing.T) {
	row := patternSteps(8, 21)
	for size := 1; size <= 8; size++ {
		for _, pieces := range cutsOf(row[:size]) {
			for core := range int64(3) {
				cores := make([][]impl.Event, 3)
				cores[core] = row[:size]
				file := fileOfFrames(3, framesOfPieces(core, pieces)...)
				wantFileText(t, "uneven blocks", file, impl.TextResult{Text: printedByHand(cores)})
				wantFileChecked(t, "uneven blocks", file, ownOrder(cores), checkedByHand(cores, ownOrder(cores)))
			}
		}
	}
}

func TestFileToTextOfAnyBytes(t *testing.T) {
	for i, cores := range someTraces() {
		file := fileByHand(cores, 1+i%8)
		step := 1 + len(file)/16
		for at := i % 4; at < len(file); at += 4 {
			was := file[at]
			for b := (i + at) % (4 * step); b < 256; b += 4 * step {
				file[at] = byte(b)
				wantFileText(t, "a byte is turned", file, fileTextByHand(file))
				whole := summed(file[:len(file)-4]...)
				wantFileText(t, "a byte is turned, with its sum", whole, fileTextByHand(whole))
			}
			file[at] = was
			wantFileText(t, "cut off", file[:at], fileTextByHand(file[:at]))
		}
	}
	for size := 0; size < 2100; size += 7 {
		data := append([]byte{67, byte(size % 6)}, someBytes(size)...)
		wantFileText(t, "no rule", data, fileTextByHand(data))
		data = ended(append([]byte{67, 1}, data[:size%9]...), size%2, 0)
		wantFileText(t, "an end", data, fileTextByHand(data))
	}
}

func TestTextToFileTellsTheCodeOfTheText(t *testing.T) {
	for _, c := range unreadTexts() {
		wantParsed(t, c.name, c.text, impl.TraceResult{Code: c.want})
		// The code of the text is told ahead of a block that leaves its bounds.
		for _, block := range append(badBlocks(), 1, 2, 7, 8) {
			wantTextFile(t, c.name, c.text, block, impl.BytesResult{Code: c.want})
		}
	}
}

func TestTextToFileRefusesOtherBlocks(t *testing.T) {
	for _, cores := range tracesForAll() {
		text := printedByHand(cores)
		for _, block := range badBlocks() {
			wantTextFile(t, "no such block", text, block, impl.BytesResult{Code: impl.ErrRange})
		}
	}
	// A block that holds more than there is of events is none that is too long.
	for block, want := range map[int64]int64{-1: impl.ErrRange, 0: impl.ErrRange, 1: impl.OK, 7: impl.OK, 8: impl.OK, 9: impl.ErrRange, 10: impl.ErrRange} {
		wantCode(t, "a trace without events", impl.TextToFile("trace 1\ncore 0\n", block).Code, want)
		wantCode(t, "a trace of one event", impl.TextToFile("trace 1\ncore 0\nr 0x0 0\n", block).Code, want)
		wantCode(t, "a trace of nine events", impl.TextToFile("trace 2\ncore 0\n"+strings.Repeat("r 0x0 0\n", 8)+"core 1\nr 0x0 0\n", block).Code, want)
	}
}

func TestTextToFileHasTheBytesOfTheDocument(t *testing.T) {
	for _, c := range []struct {
		name  string
		text  string
		block int64
		want  []byte
	}{
		{"one core without events", "trace 1\ncore 0\n", 1, summed(67, 1, 69, 0, 0)},
		{"four cores without events", "trace 4\ncore 0\ncore 1\ncore 2\ncore 3\n", 8, summed(67, 4, 69, 0, 0)},
		{"one event", "trace 1\ncore 0\nw 0x3 5\n", 8, summed(slices.Concat([]byte{67, 1}, summed(66, 0, 2, 13, 5), []byte{69, 1, 1})...)},
		{"two in one block", "trace 2\ncore 0\ncore 1\nw 0x3 5\nr 0x1 300\n", 2, summed(slices.Concat([]byte{67, 2}, summed(66, 1, 5, 13, 5, 6, 172, 2), []byte{69, 1, 2})...)},
		{"two in two blocks", "trace 2\ncore 0\ncore 1\nw 0x3 5\nr 0x1 300\n", 1, summed(slices.Concat([]byte{67, 2}, summed(66, 1, 2, 13, 5), summed(66, 1, 3, 4, 172, 2), []byte{69, 2, 2})...)},
	} {
		wantTextFile(t, c.name, c.text, c.block, impl.BytesResult{Bytes: c.want})
	}
}

func TestTextToFileOfAnyText(t *testing.T) {
	signs := "019afFxrwcot -+\n\r\x00\xff"
	for i, cores := range someTraces() {
		text, block := printedByHand(cores), int64(i%10)
		step := 1 + len(text)/20
		for at := i % step; at < len(text); at += step {
			for j := range signs {
				turned := text[:at] + signs[j:j+1] + text[at+1:]
				wantTextFile(t, "a byte is turned", turned, block, textFileByHand(turned, block))
			}
			wantTextFile(t, "cut off", text[:at], block, textFileByHand(text[:at], block))
			gone := text[:at] + text[at+1:]
			wantTextFile(t, "a byte is gone", gone, block, textFileByHand(gone, block))
		}
	}
}

// The code of the file is told ahead of that of any write order.
func TestCheckFileTellsTheCodeOfTheFile(t *testing.T) {
	for _, c := range unreadFiles() {
		for _, orders := range [][]impl.WriteList{nil, {}, {{}}, mixedOrder(), mixedOrder()[1:], orderOf(listOf(-1, 9, 9)), orderOf(listOf(3, 1, 0))} {
			wantFileChecked(t, c.name, c.file, orders, impl.CheckResult{Code: c.want})
		}
	}
}

func TestCheckFileRefusesAWrongOrder(t *testing.T) {
	for _, c := range wrongOrders() {
		for block := 1; block <= 8; block++ {
			wantFileChecked(t, c.name, fileByHand(c.cores, block), c.orders, impl.CheckResult{Code: impl.ErrOrder})
		}
	}
	for count := 1; count <= 4; count++ {
		none := fileByHand(make([][]impl.Event, count), 8)
		wantFileChecked(t, "no events, and a list", none, orderOf(listOf(0)), impl.CheckResult{Code: impl.ErrOrder})
		wantFileChecked(t, "no events, and an id", none, orderOf(listOf(0, 0, 0)), impl.CheckResult{Code: impl.ErrOrder})
		wantFileChecked(t, "no events, and no list", none, nil, impl.CheckResult{Accept: true})
		wantFileChecked(t, "no events, and an empty list", none, []impl.WriteList{}, impl.CheckResult{Accept: true})
	}
	one := fileByHand(traceOf(eventsOf(store(3, 5))), 8)
	wantFileChecked(t, "no list", one, nil, impl.CheckResult{Code: impl.ErrOrder})
	wantFileChecked(t, "very many lists", one, make([]impl.WriteList, 100000), impl.CheckResult{Code: impl.ErrOrder})
	wantFileChecked(t, "very many ids", one, []impl.WriteList{{Addr: 3, Ids: make([]impl.WriteId, 100000)}}, impl.CheckResult{Code: impl.ErrOrder})
	wantFileChecked(t, "another Addr", one, orderOf(listOf(4, 0, 0)), impl.CheckResult{Code: impl.ErrOrder})
	wantFileChecked(t, "the right one", one, orderOf(listOf(3, 0, 0)), impl.CheckResult{Accept: true, Witness: []int64{0}})
	// What was turned in the file and stands wrong in the order is wrong in the
	// file first.
	one[len(one)-1] ^= 1
	wantFileChecked(t, "no list, and another sum", one, nil, impl.CheckResult{Code: impl.ErrSum})
}

func TestCheckFileTellsWhetherTheFileFits(t *testing.T) {
	for _, c := range []struct {
		name   string
		cores  [][]impl.Event
		orders []impl.WriteList
		want   impl.CheckResult
	}{
		{"the example of the document", traceOf(eventsOf(store(7, 1), load(7, 2))), orderOf(listOf(7, 0, 0)), impl.CheckResult{}},
		{"what was stored", traceOf(eventsOf(store(7, 1), load(7, 1))), orderOf(listOf(7, 0, 0)), impl.CheckResult{Accept: true, Witness: []int64{0, 0}}},
		{"0 ahead of the store", traceOf(eventsOf(store(7, 1)), eventsOf(load(7, 0))), orderOf(listOf(7, 0, 0)), impl.CheckResult{Accept: true, Witness: []int64{1, 0}}},
		{"the store ahead", traceOf(eventsOf(load(7, 1)), eventsOf(store(7, 1))), orderOf(listOf(7, 1, 0)), impl.CheckResult{Accept: true, Witness: []int64{1, 0}}},
		{"both may be first", traceOf(eventsOf(load(7, 0)), eventsOf(store(8, 1))), orderOf(listOf(8, 1, 0)), impl.CheckResult{Accept: true, Witness: []int64{0, 1}}},
		{"two stores", traceOf(eventsOf(store(7, 1)), eventsOf(store(7, 2), load(7, 1))), orderOf(listOf(7, 1, 0, 0, 0)), impl.CheckResult{Accept: true, Witness: []int64{1, 0, 1}}},
		{"two stores, in the other order", traceOf(eventsOf(store(7, 1)), eventsOf(store(7, 2), load(7, 1))), orderOf(listOf(7, 0, 0, 1, 0)), impl.CheckResult{}},
		{"both load ahead of the other's store", traceOf(eventsOf(store(1, 1), load(2, 0)), eventsOf(store(2, 1), load(1, 0))), orderOf(listOf(1, 0, 0), listOf(2, 1, 0)), impl.CheckResult{}},
		{"what nobody stored", traceOf(nil, eventsOf(load(5, 9))), nil, impl.CheckResult{}},
	} {
		for block := 1; block <= 8; block++ {
			wantFileChecked(t, c.name, fileByHand(c.cores, block), c.orders, c.want)
		}
	}
}

// checkJudgedAlike: a file, in whatever blocks, a file of the text, and the
// trace itself are judged alike.
func checkJudgedAlike(t *testing.T, name string, cores [][]impl.Event, orders []impl.WriteList, want impl.CheckResult) {
	t.Helper()
	wantChecked(t, name, cores, orders, want)
	wantChecked(t, name+", told", impl.ParseTrace(printedByHand(cores)).Cores, orders, want)
	for block := int64(1); block <= 8; block++ {
		wantFileChecked(t, name, fileByHand(cores, int(block)), orders, want)
		wantFileChecked(t, name+", of its text", impl.TextToFile(printedByHand(cores), block).Bytes, orders, want)
	}
}

func TestAFileAndATextAreJudgedAlike(t *testing.T) {
	fit, refused := 0, 0
	for _, c := range someOrders() {
		want := checkedByHand(c.cores, c.orders)
		checkJudgedAlike(t, c.name, c.cores, c.orders, want)
		if want.Accept {
			fit++
		} else {
			refused++
		}
	}
	if fit < 20 || refused < 20 {
		t.Errorf("%d files fit, and %d do not", fit, refused)
	}
}

func TestAllSmallFilesAreJudged(t *testing.T) {
	for i, cores := range allTraces(2, 2, eventsOf(load(0, 0), load(0, 1), store(0, 1), store(1, 1), load(1, 1))) {
		file := fileByHand(cores, 1+i%8)
		for _, orders := range everyOrder(cores) {
			wantFileChecked(t, "all traces", file, orders, checkedByRows(cores, orders))
		}
		wantFileChecked(t, "no order", file, nil, fileCheckedByHand(file, nil))
	}
}

type runCase struct {
	name     string
	programs [][]impl.Op
	lines    int64
	picks    []int64
	block    int64
	want     int64
}

// runFaults are programs, lines, picks and blocks with a fault, each with its
// code.
func runFaults() []runCase {
	good, full := [][]impl.Op{{stores(1, 5)}, {loads(1)}}, fullPrograms()
	faults := []runCase{
		{"no programs", nil, 2, nil, 8, impl.ErrMany},
		{"an empty list of programs", [][]impl.Op{}, 2, nil, 8, impl.ErrMany},
		{"five programs", append(clonePrograms(full), nil), 2, nil, 8, impl.ErrMany},
		{"five programs without ops", make([][]impl.Op, 5), 2, nil, 8, impl.ErrMany},
		{"very many programs", make([][]impl.Op, 100000), 2, nil, 8, impl.ErrMany},
		{"nine ops", [][]impl.Op{manyOps(9, loads(1))}, 2, nil, 8, impl.ErrMany},
		{"nine ops of the last program", [][]impl.Op{{loads(1)}, nil, manyOps(9, loads(1))}, 2, nil, 8, impl.ErrMany},
		{"very many ops", [][]impl.Op{manyOps(100000, loads(1))}, 2, nil, 8, impl.ErrMany},
		{"nine ops ahead of no kind", [][]impl.Op{manyOps(9, loads(1)), {{Kind: 2}}}, 2, nil, 8, impl.ErrMany},
		{"no kind ahead of nine ops", [][]impl.Op{{{Kind: 2}}, manyOps(9, loads(1))}, 2, nil, 8, impl.ErrForm},
		{"out of bounds ahead of no kind", [][]impl.Op{{loads(-1), {Kind: 2}}}, 2, nil, 8, impl.ErrRange},
		{"101 picks", good, 2, make([]int64, 101), 8, impl.ErrMany},
		{"very many picks", good, 2, make([]int64, 100000), 8, impl.ErrMany},
	}
	for o, code := range faultyOps() {
		faults = append(faults, runCase{"an op with a fault", [][]impl.Op{{loads(1)}, {stores(1, 1), o}}, 2, nil, 8, code},
			runCase{"an op with a fault alone", [][]impl.Op{{o}}, 1, []int64{0}, 1, code})
	}
	for _, lines := range []int64{0, -1, 5, 256, 257, 1<<32 + 1, math.MinInt64, math.MaxInt64} {
		faults = append(faults, runCase{"no such lines", good, lines, nil, 8, impl.ErrRange},
			runCase{"no such lines, and 101 picks", full, lines, make([]int64, 101), 8, impl.ErrRange})
	}
	for _, block := range badBlocks() {
		for lines := int64(1); lines <= 4; lines++ {
			faults = append(faults, runCase{"no such block", full, lines, anyPicks(100, lines), block, impl.ErrRange},
				runCase{"no such block, and no ops", make([][]impl.Op, lines), lines, nil, block, impl.ErrRange},
				runCase{"no such block, and one op", [][]impl.Op{{loads(3)}}, lines, nil, block, impl.ErrRange})
		}
	}
	return faults
}

func TestRunAllTellsEachCode(t *testing.T) {
	for _, c := range runFaults() {
		wantNoVerdict(t, c.name, c.programs, c.lines, c.picks, c.block, c.want)
		// What Simulate tells is told whatever the block is.
		if simulated := impl.Simulate(c.programs, c.lines, c.picks).Code; simulated != impl.OK {
			wantCode(t, c.name, simulated, c.want)
			for _, block := range append(badBlocks(), 1, 2, 7, 8) {
				wantNoVerdict(t, c.name+", in other blocks", c.programs, c.lines, c.picks, block, c.want)
			}
		}
	}
}

// Each thing may be wrong or not, and what is asked first is told.
func TestTheFirstCodeOfARunIsTold(t *testing.T) {
	wrongPrograms := []runCase{
		{"nothing", [][]impl.Op{{stores(1, 5), loads(1)}, {loads(1)}}, 0, nil, 0, impl.OK},
		{"no programs", nil, 0, nil, 0, impl.ErrMany},
		{"a load with a Value", [][]impl.Op{{{Value: 1}}}, 0, nil, 0, impl.ErrForm},
		{"an Addr beyond", [][]impl.Op{{loads(1000000)}}, 0, nil, 0, impl.ErrRange},
	}
	for _, c := range wrongPrograms {
		for _, lines := range []int64{-1, 0, 1, 4, 5} {
			for _, size := range []int{0, 100, 101} {
				for _, block := range []int64{-1, 0, 1, 8, 9} {
					want := c.want
					switch {
					case want != impl.OK:
					case lines < 1 || lines > 4:
						want = impl.ErrRange
					case size > 100:
						want = impl.ErrMany
					case block < 1 || block > 8:
						want = impl.ErrRange
					}
					picks := anyPicks(size, lines)
					if want != impl.OK {
						wantNoVerdict(t, c.name, c.programs, lines, picks, block, want)
						continue
					}
					wantVerdict(t, c.name, c.programs, lines, picks, block, verdictByHand(c.programs, lines, picks, block))
				}
			}
		}
	}
}

func TestRunAllHasTheVerdictOfTheDocument(t *testing.T) {
	two := [][]impl.Op{{stores(31, 5)}, {loads(31)}}
	ahead := impl.Verdict{
		Accept:  true,
		File:    summed(slices.Concat([]byte{67, 2}, summed(66, 0, 2, 125, 5), summed(66, 1, 2, 124, 0), []byte{69, 2, 2})...),
		Log:     []impl.Step{{Core: 1, Event: load(31, 0)}, {Core: 0, Event: store(31, 5)}},
		Orders:  orderOf(listOf(31, 0, 0)),
		Witness: []int64{1, 0},
	}
	behind := impl.Verdict{
		Accept:  true,
		File:    summed(slices.Concat([]byte{67, 2}, summed(66, 0, 2, 125, 5), summed(66, 1, 2, 124, 5), []byte{69, 2, 2})...),
		Log:     []impl.Step{{Core: 0, Event: store(31, 5)}, {Core: 1, Event: load(31, 5)}},
		Orders:  orderOf(listOf(31, 0, 0)),
		Witness: []int64{0, 1},
	}
	both := impl.Verdict{
		Accept:  true,
		File:    summed(slices.Concat([]byte{67, 1}, summed(66, 0, 4, 13, 5, 1, 7), summed(66, 0, 2, 12, 7), []byte{69, 2, 3})...),
		Log:     []impl.Step{{Event: store(3, 5)}, {Event: store(3, 7)}, {Event: load(3, 7)}},
		Orders:  orderOf(listOf(3, 0, 0, 0, 1)),
		Witness: []int64{0, 0, 0},
	}
	for lines := int64(1); lines <= 4; lines++ {
		wantVerdict(t, "the load first", two, lines, []int64{1}, 8, ahead)
		wantVerdict(t, "the load first, and more picks", two, lines, []int64{7, 1, 1, 0}, 1, ahead)
		wantVerdict(t, "the store first", two, lines, nil, 8, behind)
		wantVerdict(t, "the store first, and no core ahead", two, lines, []int64{-1, 2}, 3, behind)
		wantVerdict(t, "one core", [][]impl.Op{{stores(3, 5), stores(3, 7), loads(3)}}, lines, nil, 2, both)
	}
	// The row that is told is the first one that fits, not the one of the log.
	swapped := impl.RunAll([][]impl.Op{{loads(1)}, {stores(2, 9)}}, 2, []int64{1, 0}, 8)
	if !slices.Equal(swapped.Witness, []int64{0, 1}) || swapped.Log[0].Core != 1 {
		t.Errorf("the verdict of what may be turned about is %+v", swapped)
	}
}

func TestRunAllOfProgramsWithoutOps(t *testing.T) {
	for count := 1; count <= 4; count++ {
		for _, programs := range [][][]impl.Op{make([][]impl.Op, count), slices.Repeat([][]impl.Op{{}}, count)} {
			for block := int64(1); block <= 8; block++ {
				want := impl.Verdict{Accept: true, File: summed(67, byte(count), 69, 0, 0)}
				wantVerdict(t, "no ops", programs, 1, nil, block, want)
				wantVerdict(t, "no ops, and picks", programs, 4, []int64{0, 1, 2, 3}, block, want)
			}
		}
	}
}

// checkRun: each part of a verdict is what the function that the document
// names tells.
func checkRun(t *testing.T, programs [][]impl.Op, lines int64, picks []int64, block int64) {
	t.Helper()
	got, cores := impl.RunAll(programs, lines, picks, block), int64(len(programs))
	simulated := impl.Simulate(programs, lines, picks)
	split := impl.SplitLog(simulated.Log, cores).Cores
	checked := impl.CheckFile(got.File, got.Orders)
	want := impl.Verdict{
		Accept:  checked.Accept,
		File:    mustEncode(t, split, block),
		Log:     simulated.Log,
		Orders:  impl.OrdersOf(simulated.Log, cores).Orders,
		Witness: checked.Witness,
	}
	if simulated.Code != impl.OK || checked.Code != impl.OK || !alikeVerdicts(got, want) || !impl.SameVerdicts(got, want) {
		t.Fatalf("RunAll(%v, %d, %v, %d) is %+v, not %+v", programs, lines, picks, block, got, want)
	}
	wantVerdict(t, "by hand", programs, lines, picks, block, verdictByHand(programs, lines, picks, block))
}

// checkOneMemory: what comes of any programs goes into a file and back, each
// core does its own ops in order, and there is a row of one memory for it.
func checkOneMemory(t *testing.T, programs [][]impl.Op, lines int64, picks []int64, block int64) {
	t.Helper()
	got := impl.RunAll(programs, lines, picks, block)
	if got.Code != impl.OK || !got.Accept {
		t.Fatalf("RunAll(%v, %d, %v, %d) is %+v: it is not accepted", programs, lines, picks, block, got)
	}
	back := impl.DecodeTrace(got.File)
	if back.Code != impl.OK || len(back.Cores) != len(programs) || !sameRows(back.Cores, splitByHand(got.Log, int64(len(programs)))) {
		t.Fatalf("the log %v is read back as %+v", got.Log, back)
	}
	for core, ops := range programs {
		list := back.Cores[core]
		if len(list) != len(ops) {
			t.Fatalf("core %d has the ops %v, and does %v", core, ops, list)
		}
		for i, o := range ops {
			if e := list[i]; e.Kind != o.Kind || e.Addr != o.Addr || o.Kind == impl.KindStore && e.Value != o.Value {
				t.Fatalf("core %d has the ops %v, and does %v", core, ops, list)
			}
		}
	}
	if !fitsByHand(back.Cores, got.Orders, got.Witness) || !impl.IsWitness(back.Cores, got.Orders, got.Witness) {
		t.Fatalf("the row %v does not fit %v, %v", got.Witness, back.Cores, got.Orders)
	}
	// The machine did it in such a row, too, and the first of them is told.
	row := coresByHand(got.Log)
	if !flatByHand(got.Log, int64(len(programs))) || !fitsByHand(back.Cores, got.Orders, row) || slices.Compare(got.Witness, row) > 0 {
		t.Fatalf("the log %v has not come of one memory, or its row is ahead of %v", got.Log, got.Witness)
	}
	checkPassages(t, back.Cores, block)
}

func TestRunAllOfAnyPrograms(t *testing.T) {
	for seed := range int64(300) {
		programs, picks := anyPrograms(int(seed%4)+1, seed%7+1, seed), anyPicks(int(seed*7%101), seed)
		lines, block := seed/4%4+1, seed/3%8+1
		checkRun(t, programs, lines, picks, block)
		checkOneMemory(t, programs, lines, picks, block)
	}
	for seed := range int64(24) {
		checkRun(t, fullPrograms(), seed%4+1, anyPicks(100, seed), seed%8+1)
		checkOneMemory(t, fullPrograms(), seed%4+1, anyPicks(100, seed), seed%8+1)
	}
	for count := 1; count <= 4; count++ {
		checkRun(t, fullPrograms()[:count], 1, nil, 8)
		checkOneMemory(t, fullPrograms()[:count], 1, nil, 8)
		checkRun(t, make([][]impl.Op, count), 1, nil, 8)
		checkOneMemory(t, make([][]impl.Op, count), 1, nil, 8)
	}
}

// All programs of two cores that these ops make, up to two of each, with each
// three picks of both.
func TestRunAllOfAllSmallPrograms(t *testing.T) {
	lists := [][]impl.Op{nil}
	for _, first := range []impl.Op{loads(0), stores(0, 1), stores(1, 2), loads(1)} {
		lists = append(lists, []impl.Op{first})
		for _, second := range []impl.Op{loads(0), stores(0, 3), stores(0, 0), loads(1)} {
			lists = append(lists, []impl.Op{first, second})
		}
	}
	for i, first := range lists {
		for j, second := range lists {
			programs := [][]impl.Op{first, second}
			for n := range int64(8) {
				picks := []int64{n % 2, n / 2 % 2, n / 4}
				lines, block := int64(i+j)%4+1, int64(i+j)%3+1
				wantVerdict(t, "small programs", programs, lines, picks, block, verdictByHand(programs, lines, picks, block))
			}
		}
	}
}

// The block turns the File and nothing else, and the lines turn nothing.
func TestVerdictsHangOnTheBlockInTheFileAlone(t *testing.T) {
	for seed := range int64(40) {
		programs, picks := anyPrograms(int(seed%4)+1, 5, seed), anyPicks(int(seed*7%101), seed)
		if seed%10 == 0 {
			programs = fullPrograms()
		}
		want := verdictByHand(programs, 1, picks, 1)
		split := splitByHand(want.Log, int64(len(programs)))
		for block := int64(1); block <= 8; block++ {
			want.File = fileByHand(split, int(block))
			for lines := int64(1); lines <= 4; lines++ {
				wantVerdict(t, "other lines", programs, lines, picks, block, want)
			}
		}
	}
	first, last := impl.RunAll(fullPrograms(), 1, nil, 1), impl.RunAll(fullPrograms(), 1, nil, 8)
	if bytes.Equal(first.File, last.File) || impl.SameVerdicts(first, last) {
		t.Error("full programs have the same file in blocks of 1 and of 8")
	}
}

// differentVerdicts are no two of them the same, with faults and without: each
// has some fields other than those of the others.
func differentVerdicts() []impl.Verdict {
	base := verdictByHand([][]impl.Op{{stores(3, 5), loads(3)}, {stores(3, 7), stores(31, 9)}}, 2, []int64{1, 0}, 1)
	list := []impl.Verdict{{}, base}
	add := func(turn func(v *impl.Verdict)) {
		of, none := cloneVerdict(base), impl.Verdict{}
		turn(&of)
		turn(&none)
		list = append(list, of, none)
	}
	for _, code := range []int64{impl.ErrForm, impl.ErrMany, impl.ErrOrder, 8, -1, 256, 1 << 32, math.MinInt64, math.MaxInt64} {
		add(func(v *impl.Verdict) { v.Code = code })
	}
	add(func(v *impl.Verdict) { v.Accept = !v.Accept })
	for _, file := range [][]byte{{0}, {0, 0}, {67}, base.File[1:], base.File[:len(base.File)-1], append(bytes.Clone(base.File), 0), someBytes(5000), turnedByHand(base.File, 0, 7), turnedByHand(base.File, int64(len(base.File)-1), 0)} {
		add(func(v *impl.Verdict) { v.File = file })
	}
	for _, log := range differentLogs() {
		if len(log) > 0 {
			add(func(v *impl.Verdict) { v.Log = log })
		}
	}
	add(func(v *impl.Verdict) { v.Log = base.Log[:len(base.Log)-1] })
	add(func(v *impl.Verdict) { v.Log = append(slices.Clone(base.Log), impl.Step{}) })
	for _, orders := range differentOrders() {
		if len(orders) > 0 && len(orders) < 400 {
			add(func(v *impl.Verdict) { v.Orders = orders })
		}
	}
	add(func(v *impl.Verdict) { v.Orders = base.Orders[:1] })
	add(func(v *impl.Verdict) { v.Orders = base.Orders[1:] })
	for _, row := range [][]int64{{0}, {1}, {0, 0}, {0, 1}, {1, 0}, {-1}, {1 << 32}, {math.MinInt64}, base.Witness[1:], base.Witness[:3], append(slices.Clone(base.Witness), 0), make([]int64, 32), make([]int64, 33), make([]int64, 100000)} {
		add(func(v *impl.Verdict) { v.Witness = row })
	}
	// Each list is gone, and each one is there alone.
	for i := range 4 {
		without, alone := cloneVerdict(base), impl.Verdict{}
		switch i {
		case 0:
			without.File, alone.File = nil, base.File
		case 1:
			without.Log, alone.Log = nil, base.Log
		case 2:
			without.Orders, alone.Orders = nil, base.Orders
		case 3:
			without.Witness, alone.Witness = nil, base.Witness
		}
		list = append(list, without, alone)
	}
	return list
}

// wantAllDifferent: each of these is the same as itself, and as no other one.
func wantAllDifferent(t *testing.T, name string, list []impl.Verdict) {
	t.Helper()
	for i, a := range list {
		for j, b := range list {
			if got := impl.SameVerdicts(a, b); got != (i == j) {
				t.Fatalf("%s: SameVerdicts of the verdicts %d and %d is %v", name, i, j, got)
			}
		}
		if !impl.SameVerdicts(a, cloneVerdict(a)) || !impl.SameVerdicts(cloneVerdict(a), a) {
			t.Errorf("%s: verdict %d is not the same as itself", name, i)
		}
	}
}

// Beside a code, and where nothing is accepted, all other fields are asked, too.
func TestSameVerdicts(t *testing.T) {
	list := differentVerdicts()
	wantAllDifferent(t, "any codes", list)
	for _, code := range []int64{impl.OK, impl.ErrSum, -1, math.MaxInt64} {
		var others []impl.Verdict
		for _, v := range list {
			if v.Code == impl.OK {
				v.Code = code
				others = append(others, v)
			}
		}
		wantAllDifferent(t, fmt.Sprint("the code ", code), others)
	}
}

func TestNilAndEmptyAreTheSameInVerdicts(t *testing.T) {
	nils := []impl.Verdict{{}, {Code: impl.ErrSum}, {Accept: true}, {Code: -7, Accept: true}}
	for _, a := range nils {
		for n := range 16 {
			b := a
			if n%2 == 1 {
				b.File = []byte{}
			}
			if n/2%2 == 1 {
				b.Log = []impl.Step{}
			}
			if n/4%2 == 1 {
				b.Orders = []impl.WriteList{}
			}
			if n/8 == 1 {
				b.Witness = make([]int64, 0, 9)
			}
			if !impl.SameVerdicts(a, b) || !impl.SameVerdicts(b, a) || !impl.SameVerdicts(b, b) {
				t.Errorf("%+v and %+v are not the same", a, b)
			}
		}
	}
	ids := impl.Verdict{Orders: []impl.WriteList{{Addr: 3}}}
	if !impl.SameVerdicts(ids, impl.Verdict{Orders: []impl.WriteList{{Addr: 3, Ids: []impl.WriteId{}}}}) {
		t.Error("nil and the list without ids are not the same")
	}
	long := impl.Verdict{File: someBytes(9), Log: logOf(0, 1, 2), Orders: mixedOrder(), Witness: []int64{1, 2, 3}}
	short := impl.Verdict{File: long.File[:4], Log: long.Log[:2], Orders: long.Orders[:1], Witness: long.Witness[:2]}
	if !impl.SameVerdicts(short, cloneVerdict(short)) || !impl.SameVerdicts(cloneVerdict(short), short) {
		t.Error("what stands behind the end of a list is looked at")
	}
}

// programsWithRoom have room behind each row, and behind the list of them, with
// what stands there.
func programsWithRoom(programs [][]impl.Op) ([][]impl.Op, [][]impl.Op) {
	var whole [][]impl.Op
	for _, ops := range append(slices.Clone(programs), nil, nil) {
		whole = append(whole, append(slices.Clone(ops), stores(9, 9), loads(8), stores(7, 0), impl.Op{Kind: 5}))
	}
	given := slices.Clone(whole)
	for core, ops := range programs {
		given[core] = whole[core][:len(ops)]
	}
	return given, whole
}

func TestNoProgramsAndNoPicksAreChangedByARun(t *testing.T) {
	var runs []runCase
	for _, c := range runFaults() {
		if len(c.programs) < 100 && (len(c.programs) == 0 || len(c.programs[0]) < 100) && len(c.picks) < 200 {
			runs = append(runs, c)
		}
	}
	for seed := range int64(40) {
		runs = append(runs, runCase{"no fault", anyPrograms(int(seed%4)+1, 5, seed), seed%4 + 1, anyPicks(int(seed), seed), seed%8 + 1, impl.OK})
	}
	for _, c := range runs {
		given, whole := programsWithRoom(c.programs)
		picks := append(slices.Clone(c.picks), 3, 2, 1, 0)
		before, heads, picksBefore := clonePrograms(whole), slices.Clone(given), slices.Clone(picks)
		impl.RunAll(given[:len(c.programs)], c.lines, picks[:len(c.picks)], c.block)
		if !samePrograms(whole, before) || !samePrograms(given, heads) || !slices.Equal(picks, picksBefore) {
			t.Errorf("%s: the programs %v or the picks are changed", c.name, c.programs)
		}
	}
}

func TestNoFileAndNoOrderIsChanged(t *testing.T) {
	cases := append(someOrders(), wrongOrders()...)
	check := func(name string, file []byte, list []impl.WriteList) {
		t.Helper()
		orders, wholeOrders := ordersWithRoom(list)
		heads, ordersBefore := slices.Clone(orders), cloneOrders(wholeOrders)
		whole := append(bytes.Clone(file), someBytes(50)...)
		before := bytes.Clone(whole)
		impl.FileToText(whole[:len(file)])
		impl.CheckFile(whole[:len(file)], orders[:len(list)])
		if !bytes.Equal(whole, before) {
			t.Errorf("%s: the file is changed", name)
		}
		if !alikeOrders(wholeOrders, ordersBefore) || !alikeOrders(orders, heads) {
			t.Errorf("%s: the write order is changed", name)
		}
	}
	for i, c := range cases {
		check(c.name, fileByHand(c.cores, i%8+1), c.orders)
	}
	for _, c := range unreadFiles() {
		check(c.name, c.file, mixedOrder())
	}
}

func TestNoVerdictIsChanged(t *testing.T) {
	for i, v := range differentVerdicts() {
		a, b := cloneVerdict(v), cloneVerdict(v)
		a.File, a.Log, a.Witness = append(a.File, 1, 2), append(a.Log, logOf(1, 2)...), append(a.Witness, 1, 2)
		whole := cloneVerdict(a)
		short := a
		short.File, short.Log, short.Witness = a.File[:len(v.File)], a.Log[:len(v.Log)], a.Witness[:len(v.Witness)]
		impl.SameVerdicts(short, b)
		impl.SameVerdicts(b, short)
		impl.SameVerdicts(short, impl.Verdict{})
		if !alikeVerdicts(a, whole) || !alikeVerdicts(b, v) {
			t.Errorf("verdict %d is changed", i)
		}
	}
}

// spoilBytes writes into all the memory that data has, that behind its end,
// too.
func spoilBytes(data []byte) {
	data = data[:cap(data)]
	for i := range data {
		data[i] ^= 255
	}
}

// checkVerdictApart spoils one list after the other of an answer: all others
// stay as they are, and so does another answer to the same.
func checkVerdictApart(t *testing.T, want impl.Verdict, answer func() impl.Verdict) {
	t.Helper()
	other := answer()
	spoilOne := []func(v *impl.Verdict){
		func(v *impl.Verdict) { spoilBytes(v.File); v.File = want.File },
		func(v *impl.Verdict) { spoilLog(v.Log); v.Log = want.Log },
		func(v *impl.Verdict) { spoilNumbers(v.Witness); v.Witness = want.Witness },
		func(v *impl.Verdict) { spoilOrders(v.Orders); v.Orders = want.Orders },
	}
	for at := range want.Orders {
		spoilOne = append(spoilOne, func(v *impl.Verdict) {
			spoilIds(v.Orders[at].Ids)
			_ = append(v.Orders[at].Ids, manyIds(40)...)
			v.Orders[at].Ids = want.Orders[at].Ids
		})
	}
	for i, spoil := range spoilOne {
		got := answer()
		spoil(&got)
		if !alikeVerdicts(got, want) {
			t.Fatalf("list %d of the verdict %+v shares memory with another one", i, want)
		}
	}
	if !alikeVerdicts(other, want) {
		t.Fatalf("two verdicts share memory: %+v", want)
	}
}

func TestVerdictsAreNewMemory(t *testing.T) {
	for seed := range int64(60) {
		programs, picks, lines, block := anyPrograms(int(seed%4)+1, 5, seed), anyPicks(30, seed), seed/4%4+1, seed%8+1
		given, givenPicks := clonePrograms(programs), slices.Clone(picks)
		want := verdictByHand(programs, lines, picks, block)
		checkVerdictApart(t, want, func() impl.Verdict { return impl.RunAll(given, lines, givenPicks, block) })
		if !samePrograms(given, programs) || !slices.Equal(givenPicks, picks) {
			t.Fatalf("the verdict of %v shares memory with the programs", programs)
		}
		answer := impl.RunAll(given, lines, givenPicks, block)
		for _, ops := range given {
			copy(ops[:cap(ops)], manyOps(cap(ops), impl.Op{Kind: 9}))
		}
		clear(given)
		spoilNumbers(givenPicks)
		if !alikeVerdicts(answer, want) {
			t.Fatalf("the verdict of %v turns with the programs", programs)
		}
	}
}

func TestPassagesAreNewMemory(t *testing.T) {
	for i, cores := range someTraces() {
		block := int64(i%8) + 1
		want, text := fileByHand(cores, int(block)), printedByHand(cores)
		first, second := impl.TextToFile(text, block).Bytes, impl.TextToFile(text, block).Bytes
		spoilBytes(first)
		if !bytes.Equal(second, want) || text != printedByHand(cores) {
			t.Fatalf("two files of the text of %v share memory", cores)
		}
		told := impl.FileToText(second).Text
		spoilBytes(second)
		if told != text {
			t.Fatalf("the text of %v turns with its file", cores)
		}
		wantTextFile(t, "asked anew", text, block, impl.BytesResult{Bytes: want})
	}
}

func TestWitnessesOfFilesAreNewMemory(t *testing.T) {
	for i, c := range someOrders() {
		file, orders := fileByHand(c.cores, i%8+1), cloneOrders(c.orders)
		first, second := impl.CheckFile(file, orders), impl.CheckFile(file, orders)
		want := checkedByHand(c.cores, c.orders)
		spoilNumbers(first.Witness)
		_ = append(first.Witness, 1, 2, 3)
		if !bytes.Equal(file, fileByHand(c.cores, i%8+1)) || !alikeOrders(orders, c.orders) {
			t.Fatalf("%s: the witness shares memory with an argument", c.name)
		}
		wantFileChecked(t, c.name+", asked anew", file, orders, want)
		spoilBytes(file)
		spoilOrders(orders)
		if second.Accept != want.Accept || !slices.Equal(second.Witness, want.Witness) {
			t.Fatalf("%s: the witness turns with the arguments", c.name)
		}
	}
}

// Programs, and lists of ids, that share memory with one another are asked as
// any others.
func TestArgumentsOfARunMayShareMemory(t *testing.T) {
	ops := []impl.Op{stores(1, 5), loads(2), loads(1), stores(2, 0), stores(1, 7), loads(2), loads(1)}
	before := slices.Clone(ops)
	picks := []int64{2, 1, 0, 1, 3}
	for _, programs := range [][][]impl.Op{{ops, ops}, {ops[:3], ops[1:], ops[:3], ops[2:6]}} {
		for block := int64(1); block <= 8; block++ {
			checkRun(t, programs, block%4+1, picks, block)
			checkOneMemory(t, programs, block%4+1, picks, block)
		}
	}
	if !slices.Equal(ops, before) || !slices.Equal(picks, []int64{2, 1, 0, 1, 3}) {
		t.Error("the ops or the picks are changed")
	}
	ids := []impl.WriteId{idOf(0, 0), idOf(0, 1)}
	cores := traceOf(eventsOf(store(3, 1), store(4, 1), load(3, 1)))
	orders := orderOf(impl.WriteList{Addr: 3, Ids: ids[:1]}, impl.WriteList{Addr: 4, Ids: ids[1:]})
	wantFileChecked(t, "ids that share memory", fileByHand(cores, 2), orders, impl.CheckResult{Accept: true, Witness: []int64{0, 0, 0}})
}

// runAnswers asks each function of the chapter.
func runAnswers(run runCase, file []byte, text string, orders []impl.WriteList) []string {
	v := impl.RunAll(run.programs, run.lines, run.picks, run.block)
	return []string{
		fmt.Sprint(v, impl.SameVerdicts(v, impl.Verdict{}), impl.SameVerdicts(v, v)),
		fmt.Sprint(impl.FileToText(file), impl.CheckFile(file, orders)),
		fmt.Sprint(impl.TextToFile(text, run.block), impl.CheckFile(v.File, v.Orders)),
	}
}

// What is kept from a run that was refused half-way, or from a file or a text,
// would turn the answers that follow.
func TestAnswersOfARunHangOnTheArgumentsAlone(t *testing.T) {
	runs, files, texts, cases := runFaults(), unreadFiles(), unreadTexts(), append(wrongOrders(), someOrders()...)
	for seed := range int64(60) {
		runs = append(runs, runCase{"no fault", anyPrograms(int(seed%4)+1, 5, seed), seed%4 + 1, anyPicks(int(seed), seed), seed % 9, impl.OK})
	}
	answers := func(i int) []string {
		c := cases[i%len(cases)]
		file, text := fileByHand(c.cores, i%8+1), printedByHand(c.cores)
		if i%3 == 0 {
			file, text = files[i%len(files)].file, texts[i%len(texts)].text
		}
		return runAnswers(runs[i%len(runs)], file, text, c.orders)
	}
	count := max(len(runs), len(cases))
	var before [][]string
	for i := range count {
		before = append(before, answers(i))
	}
	for range 5 {
		for i := count - 1; i >= 0; i-- {
			if after := answers(i); !slices.Equal(after, before[i]) {
				t.Fatalf("the answers about run %d are %v, and were %v", i, after, before[i])
			}
		}
	}
}
