package tests

import (
	"fmt"
	"math"
	"slices"
	"strconv"
	"strings"
	"testing"

	"loop.example/g00800/impl"
)

// hexByHand is the number whose word in base 16 this is: it is read in any
// form, and taken only if writing it anew tells the same word.
func hexByHand(word string) impl.IntResult {
	n, err := strconv.ParseInt(strings.TrimPrefix(word, "0x"), 16, 64)
	if err != nil || n < 0 || n > 999999 || fmt.Sprintf("0x%x", n) != word {
		return impl.IntResult{Code: impl.ErrText}
	}
	return impl.IntResult{Value: n}
}

func numberByHand(word string) impl.IntResult {
	n, err := strconv.Atoi(word)
	if err != nil || n < 0 || n > 999999 || strconv.Itoa(n) != word {
		return impl.IntResult{Code: impl.ErrText}
	}
	return impl.IntResult{Value: int64(n)}
}

func eventLine(e impl.Event) string {
	return fmt.Sprintf("%c 0x%x %d", "rw"[e.Kind], e.Addr, e.Value)
}

// printedByHand follows the words of the document, for a trace without a
// fault.
func printedByHand(cores [][]impl.Event) string {
	text := fmt.Sprintln("trace", len(cores))
	for core, list := range cores {
		text += fmt.Sprintln("core", core)
		for _, e := range list {
			text += eventLine(e) + "\n"
		}
	}
	return text
}

// mayStand: the trace has no fault, by the words of the document.
func mayStand(cores [][]impl.Event) bool {
	good := len(cores) >= 1 && len(cores) <= 4
	for _, list := range cores {
		good = good && len(list) <= 8
		for _, e := range list {
			kind, addr, value := e.Kind == 0 || e.Kind == 1, e.Addr >= 0 && e.Addr <= 999999, e.Value >= 0 && e.Value <= 999999
			good = good && kind && addr && value
		}
	}
	return good
}

// parsedByHand reads a text in any form, and takes what it reads only if
// printing it anew tells the same text.
func parsedByHand(text string) impl.TraceResult {
	if len(text) > 2000 {
		return impl.TraceResult{Code: impl.ErrMany}
	}
	var cores [][]impl.Event
	for _, line := range strings.Split(text, "\n") {
		words := strings.Fields(line)
		switch {
		case len(words) == 2 && words[0] == "core":
			cores = append(cores, nil)
		case len(words) == 3 && len(cores) > 0:
			addr, _ := strconv.ParseInt(words[1], 0, 64)
			value, _ := strconv.ParseInt(words[2], 10, 64)
			e := impl.Event{Kind: int64(strings.Index("rw", words[0])), Addr: addr, Value: value}
			cores[len(cores)-1] = append(cores[len(cores)-1], e)
		}
	}
	if !mayStand(cores) || printedByHand(cores) != text {
		return impl.TraceResult{Code: impl.ErrText}
	}
	return impl.TraceResult{Cores: cores}
}

// wantParsed: beside a code all else is zero.
func wantParsed(t *testing.T, name string, text string, want impl.TraceResult) {
	t.Helper()
	got := impl.ParseTrace(text)
	if got.Code != want.Code || !sameRows(got.Cores, want.Cores) {
		t.Fatalf("%s: ParseTrace of %d bytes (%q ..) is %+v, not %+v", name, len(text), text[:min(len(text), 90)], got, want)
	}
}

func wantTold(t *testing.T, name string, text string, cores [][]impl.Event) {
	t.Helper()
	wantParsed(t, name, text, impl.TraceResult{Cores: cores})
}

func wantUntold(t *testing.T, name string, text string) {
	t.Helper()
	wantParsed(t, name, text, impl.TraceResult{Code: impl.ErrText})
}

func wantText(t *testing.T, name string, got impl.TextResult, want impl.TextResult) {
	t.Helper()
	if got != want {
		t.Errorf("%s: the answer is %+v, not %+v", name, got, want)
	}
}

func wantWord(t *testing.T, name string, word string, got impl.IntResult, want impl.IntResult) {
	t.Helper()
	if got != want {
		t.Errorf("%s of %q is %+v, not %+v", name, word[:min(len(word), 90)], got, want)
	}
}

func mustPrint(t *testing.T, cores [][]impl.Event) string {
	t.Helper()
	got := impl.PrintTrace(cores)
	if got.Code != impl.OK {
		t.Fatalf("PrintTrace(%v) has code %d", cores, got.Code)
	}
	return got.Text
}

func TestTextConstants(t *testing.T) {
	if impl.MaxText != 2000 {
		t.Errorf("MaxText is %d, not 2000", impl.MaxText)
	}
}

func TestHexOfHasTheWordsOfTheDocument(t *testing.T) {
	for n, want := range map[int64]string{
		0: "0x0", 1: "0x1", 9: "0x9", 10: "0xa", 11: "0xb", 12: "0xc", 13: "0xd", 14: "0xe", 15: "0xf", 16: "0x10", 31: "0x1f",
		160: "0xa0", 255: "0xff", 256: "0x100", 4095: "0xfff", 4096: "0x1000", 48879: "0xbeef", 65535: "0xffff", 65536: "0x10000",
		703710: "0xabcde", 983040: "0xf0000", 999998: "0xf423e", 999999: "0xf423f",
	} {
		wantText(t, fmt.Sprint("HexOf ", n), impl.HexOf(n), impl.TextResult{Text: want})
	}
}

func TestHexOfRefusesWhatIsOutOfBounds(t *testing.T) {
	for _, n := range []int64{
		-1, -2, -15, -31, -999999, -1000000, 1000000, 1000001, 1048575, 1048576, 16777215,
		math.MaxInt32, math.MaxUint32, 1 << 32, 1<<32 + 1, 1 << 62, math.MaxInt64, math.MinInt64, math.MinInt64 + 1,
	} {
		wantText(t, fmt.Sprint("HexOf ", n), impl.HexOf(n), impl.TextResult{Code: impl.ErrRange})
	}
}

// Each number has its word, no two have one word, and both words are read back.
func TestAllNumbersAreReadBackFromTheirWords(t *testing.T) {
	for n := range int64(1000000) {
		want := impl.IntResult{Value: n}
		word := "0x" + strconv.FormatInt(n, 16)
		if got := impl.HexOf(n); got != (impl.TextResult{Text: word}) {
			t.Fatalf("HexOf(%d) is %+v, not %q", n, got, word)
		}
		if got := impl.ReadHex(word); got != want {
			t.Fatalf("ReadHex(%q) is %+v, not %d", word, got, n)
		}
		digits := strconv.FormatInt(n, 10)
		if got := impl.NumberOf(digits); got != want {
			t.Fatalf("NumberOf(%q) is %+v, not %d", digits, got, n)
		}
	}
}

func TestWordsAtTheEdgesAreRead(t *testing.T) {
	for word, n := range map[string]int64{"0x0": 0, "0xf": 15, "0x10": 16, "0x1f": 31, "0xf423f": 999999, "0xabcde": 703710} {
		wantWord(t, "ReadHex", word, impl.ReadHex(word), impl.IntResult{Value: n})
	}
	for word, n := range map[string]int64{"0": 0, "1": 1, "9": 9, "10": 10, "300": 300, "100000": 100000, "999999": 999999} {
		wantWord(t, "NumberOf", word, impl.NumberOf(word), impl.IntResult{Value: n})
	}
}

func wantNoWords(t *testing.T, words ...string) {
	t.Helper()
	for _, word := range words {
		wantWord(t, "ReadHex", word, impl.ReadHex(word), impl.IntResult{Code: impl.ErrText})
		wantWord(t, "NumberOf", word, impl.NumberOf(word), impl.IntResult{Code: impl.ErrText})
	}
}

func TestReadHexRefusesOtherWords(t *testing.T) {
	for _, word := range []string{
		// Without the mark, or with another one.
		"", "0", "1", "x", "x1", "0x", "1f", "a", "f", "31", "0X1", "0X", "0X0", "1x1", "00x1", "0xx1", "0x0x1", "x01", "0b1", "0o7", "#1f", "$1f", "1fh", "1f0x", "ox1", "0\u04451",
		// A 0 ahead.
		"0x00", "0x01", "0x0f", "0x000000", "0x00001", "0x0f423f", "0x00000000000000000000", "0x00000000000000000001",
		// Letters that are no digits.
		"0x1F", "0xF", "0xA", "0xaB", "0xF423F", "0xf423F", "0xg", "0x1g", "0xg1", "0x`", "0x@", "0x/", "0x:", "0xG", "0x1h", "0xO", "0xl",
		// Signs and points.
		"0x-1", "-0x1", "+0x1", "0x+1", "0x-0", "-0x0", "0x1-", "0x1+", "0x1.", "0x1.0", "0x.1", "0x1_0", "0x_1", "0x1,0", "0x1p0", "0x1e+1",
		// Numbers that are too large.
		"0xf4240", "0xf4241", "0xf424f", "0xf4300", "0xfffff", "0x100000", "0x7fffffff", "0xffffffff", "0x100000000", "0x7fffffffffffffff", "0x8000000000000000", "0xffffffffffffffff", "0x10000000000000000", "0x10000000000000001", "0x1000000000000000f",
	} {
		wantWord(t, "ReadHex", word, impl.ReadHex(word), impl.IntResult{Code: impl.ErrText})
	}
}

func TestNumberOfRefusesOtherWords(t *testing.T) {
	for _, word := range []string{
		"", "00", "01", "001", "010", "000000", "0000001", "0999999", "00000000000000000000", "00000000000000000001",
		"+1", "-1", "+0", "-0", "-", "+", "1-", "1+", "--1", "1-1", "-999999", "-9223372036854775808",
		"1.", "1.0", ".1", "0.", "1,0", "1_0", "1'0", "1e3", "1E3", "a", "f", "1a", "1f", "a1", "x", "0x1", "0x0", "0x", "0b1", "0o7", "10x", "inf", "nan", "l", "O",
		"1000000", "1000001", "1000009", "9999990", "9999999", "2147483648", "4294967295", "4294967296", "4294967297",
		"9223372036854775807", "9223372036854775808", "18446744073709551615", "18446744073709551616", "18446744073709551617", "18446744073709551716",
		":", "/", "1:", "1/", "1;", ";1",
	} {
		wantWord(t, "NumberOf", word, impl.NumberOf(word), impl.IntResult{Code: impl.ErrText})
	}
}

// Numbers of many digits leave int64, and may come round into the bounds.
func TestWordsOfManyDigitsAreRefused(t *testing.T) {
	for _, size := range []int{7, 8, 15, 16, 17, 18, 19, 20, 21, 31, 32, 33, 63, 64, 65, 100, 1000, 100000} {
		for _, first := range "1289af" {
			for _, other := range "019f" {
				word := string(first) + strings.Repeat(string(other), size-1)
				wantNoWords(t, word)
				wantWord(t, "ReadHex", "0x"+word, impl.ReadHex("0x"+word), impl.IntResult{Code: impl.ErrText})
			}
		}
		for _, last := range []string{"", "1", "5", "f423f"} {
			wantNoWords(t, strings.Repeat("0", size)+last, "0x"+strings.Repeat("0", size)+last)
			wantNoWords(t, "1"+strings.Repeat("0", size)+last, "0x1"+strings.Repeat("0", size)+last)
		}
	}
}

// A sign, a blank, a line feed or any other byte ahead of a word, in it or
// behind it makes another word of it, or none.
func TestAByteMoreInAWord(t *testing.T) {
	for _, digits := range []string{"0", "1", "9", "12", "300", "99999", "999999"} {
		for at := range len(digits) + 1 {
			for b := range 256 {
				word := digits[:at] + string([]byte{byte(b)}) + digits[at:]
				wantWord(t, "NumberOf", word, impl.NumberOf(word), numberByHand(word))
			}
		}
	}
	for _, hex := range []string{"0x0", "0x1", "0xf", "0x1f", "0xabc", "0xffff", "0xf423f"} {
		for at := range len(hex) + 1 {
			for b := range 256 {
				word := hex[:at] + string([]byte{byte(b)}) + hex[at:]
				wantWord(t, "ReadHex", word, impl.ReadHex(word), hexByHand(word))
			}
		}
	}
	for _, more := range []string{" ", "\n", "\r", "\r\n", "\t", "\v", "\f", "\x00", "\x80", "\xff", "+", "-", "_", ".", "\u00a0", "\u2028", "\ufeff", "\ufffd"} {
		wantNoWords(t, more, more+"1", "1"+more, "1"+more+"1", more+"0x1", "0"+more+"x1", "0x"+more+"1", "0x1"+more, "0x1"+more+"1")
	}
}

// Digits of other writings, and bytes that are no text at all.
func TestSignsThatAreNoDigitsAreRefused(t *testing.T) {
	for _, sign := range []string{
		"\u0661", "\u06f1", "\u0967", "\uff11", "\uff10", "\u00b9", "\u2460", "\u00bd", "\U0001d7ce", "\uff41", "\u0430", "\u0101", "\u0131", "\u0130", "\u0161",
		"\x80", "\xff", "\xb1", "\xb0", "\xe1", "\xc0\xb1", "\xe2\x82", "\xed\xa0\x80", "\xf4\x90\x80\x80", "\ufffd", "\U0010ffff",
	} {
		wantNoWords(t, sign, "1"+sign, sign+"1", "1"+sign+"1", "0x"+sign, "0x1"+sign, "0x"+sign+"1", "0x1"+sign+"1", sign+"0x1")
	}
}

// All words of up to two bytes, and all those of three and four of the signs
// that a word may have.
func TestEachNumberHasOneWord(t *testing.T) {
	check := func(word string) {
		t.Helper()
		wantWord(t, "NumberOf", word, impl.NumberOf(word), numberByHand(word))
		for _, hex := range []string{word, "0x" + word} {
			wantWord(t, "ReadHex", hex, impl.ReadHex(hex), hexByHand(hex))
		}
	}
	for a := range 256 {
		check(string([]byte{byte(a)}))
		for b := range 256 {
			check(string([]byte{byte(a), byte(b)}))
		}
	}
	signs := "0189afxF+- \n"
	for i := range len(signs) * len(signs) * len(signs) * len(signs) {
		word := []byte{signs[i%12], signs[i/12%12], signs[i/144%12], signs[i/1728]}
		check(string(word))
		check(string(word[1:]))
	}
	for n := 999900; n < 1000200; n++ {
		check(strconv.Itoa(n))
		check(fmt.Sprintf("%x", n))
	}
}

func TestEventTextOfTheDocument(t *testing.T) {
	for want, e := range map[string]impl.Event{
		"r 0x1f 5":         load(31, 5),
		"w 0x1f 5":         store(31, 5),
		"r 0x0 0":          load(0, 0),
		"w 0x0 0":          store(0, 0),
		"r 0x0 999999":     load(0, 999999),
		"w 0xf423f 0":      store(999999, 0),
		"r 0xf423f 999999": load(999999, 999999),
		"w 0xf423f 999999": store(999999, 999999),
		"w 0xf 10":         store(15, 10),
		"r 0x10 16":        load(16, 16),
		"r 0xabcde 100000": load(703710, 100000),
	} {
		wantText(t, "EventText", impl.EventText(e), impl.TextResult{Text: want})
	}
	for _, list := range someSteps() {
		for _, e := range list {
			wantText(t, "EventText", impl.EventText(e), impl.TextResult{Text: eventLine(e)})
		}
	}
}

func TestEventTextTellsTheFault(t *testing.T) {
	for e, code := range faultyEvents() {
		wantText(t, fmt.Sprintf("EventText(%+v)", e), impl.EventText(e), impl.TextResult{Code: code})
	}
}

func TestPrintTraceHasTheTextOfTheDocument(t *testing.T) {
	row := []impl.Event{store(31, 5), load(0, 12)}
	for want, cores := range map[string][][]impl.Event{
		"trace 1\ncore 0\n":                                                 {nil},
		"trace 2\ncore 0\ncore 1\n":                                         {nil, {}},
		"trace 4\ncore 0\ncore 1\ncore 2\ncore 3\n":                         {{}, {}, nil, {}},
		"trace 1\ncore 0\nw 0x1f 5\n":                                       {row[:1]},
		"trace 1\ncore 0\nw 0x1f 5\nr 0x0 12\n":                             {row},
		"trace 2\ncore 0\nw 0x1f 5\ncore 1\nr 0x0 12\n":                     {row[:1], row[1:]},
		"trace 2\ncore 0\nr 0x0 12\ncore 1\nw 0x1f 5\n":                     {row[1:], row[:1]},
		"trace 2\ncore 0\ncore 1\nw 0x1f 5\nr 0x0 12\n":                     {nil, row},
		"trace 2\ncore 0\nw 0x1f 5\nr 0x0 12\ncore 1\n":                     {row, nil},
		"trace 3\ncore 0\nw 0x1f 5\ncore 1\ncore 2\nr 0x0 12\n":             {row[:1], nil, row[1:]},
		"trace 1\ncore 0\n" + strings.Repeat("r 0xf423f 999999\n", 8):       {manyOf(8, load(999999, 999999))},
		"trace 2\ncore 0\n" + strings.Repeat("w 0x0 0\n", 8) + "core 1\n":   {manyOf(8, store(0, 0)), nil},
		"trace 2\ncore 0\ncore 1\n" + strings.Repeat("w 0xa 10\n", 3):       {nil, manyOf(3, store(10, 10))},
		"trace 4\ncore 0\ncore 1\ncore 2\ncore 3\nw 0x1f 5\nr 0x0 12\n":     {nil, nil, nil, row},
		"trace 4\ncore 0\ncore 1\nw 0x1f 5\ncore 2\nr 0x0 12\ncore 3\n":     {nil, row[:1], row[1:], nil},
		"trace 3\ncore 0\nw 0x1f 5\ncore 1\nw 0x1f 5\ncore 2\nw 0x1f 5\n":   {row[:1], row[:1], row[:1]},
		"trace 1\ncore 0\nr 0x0 0\nw 0xf423f 0\nr 0x0 999999\nw 0x1 1000\n": {{load(0, 0), store(999999, 0), load(0, 999999), store(1, 1000)}},
	} {
		wantText(t, "PrintTrace", impl.PrintTrace(cores), impl.TextResult{Text: want})
	}
	for _, cores := range someTraces() {
		wantText(t, "PrintTrace", impl.PrintTrace(cores), impl.TextResult{Text: printedByHand(cores)})
	}
}

func TestPrintTraceTellsTheFault(t *testing.T) {
	for _, c := range faultyTraces() {
		wantText(t, c.name, impl.PrintTrace(c.cores), impl.TextResult{Code: c.want})
	}
	for e, code := range faultyEvents() {
		want := impl.TextResult{Code: code}
		wantText(t, "one event with a fault", impl.PrintTrace([][]impl.Event{{e}}), want)
		wantText(t, "the last one has a fault", impl.PrintTrace([][]impl.Event{{load(1, 1)}, nil, append(patternSteps(7, 2), e)}), want)
	}
}

func TestTracesAreReadBackFromTheirTexts(t *testing.T) {
	traces := someTraces()
	for seed := range int64(2000) {
		traces = append(traces, patternTrace(1+int(seed%4), seed))
	}
	for _, cores := range traces {
		wantTold(t, "what PrintTrace tells", mustPrint(t, cores), cores)
		wantTold(t, "what stands by hand", printedByHand(cores), cores)
	}
	for _, kind := range []int64{0, 1} {
		for _, n := range []int64{0, 1, 9, 10, 15, 16, 31, 99, 100, 255, 256, 99999, 100000, 999998, 999999} {
			cores := [][]impl.Event{nil, {{Kind: kind, Addr: n, Value: 999999 - n}}, {{Kind: kind, Addr: 999999 - n, Value: n}}}
			wantTold(t, "an event at the edges", mustPrint(t, cores), cores)
		}
	}
}

// Traces that differ have texts that differ.
func TestNoTwoTracesHaveOneText(t *testing.T) {
	traces := map[string][][]impl.Event{}
	for _, cores := range someTraces() {
		text := mustPrint(t, cores)
		if other, found := traces[text]; found && !sameRows(other, cores) {
			t.Errorf("%v and %v have one text", other, cores)
		}
		traces[text] = cores
	}
	rows := slices.DeleteFunc(differentSteps(), func(list []impl.Event) bool { return !mayStand([][]impl.Event{list}) })
	for i, list := range rows {
		for j, other := range rows {
			a, b := [][]impl.Event{list, other}, [][]impl.Event{other, list}
			if alike := mustPrint(t, a) == mustPrint(t, b); alike != (i == j) {
				t.Errorf("the texts of %v and %v are alike: %v", a, b, alike)
			}
		}
	}
}

func TestParseTraceRefusesAnotherFirstLine(t *testing.T) {
	for _, first := range []string{
		"", "\n", " ", "trace", "trace\n", "trace ", "trace \n", "trac 1\n", "traces 1\n", "Trace 1\n", "TRACE 1\n", "race 1\n", "xtrace 1\n", "core 1\n", "core 0\n", "log 1\n", "1\n", " 1\n",
		"trace1\n", "trace  1\n", " trace 1\n", "trace 1 \n", "trace\t1\n", "trace\u00a01\n", "trace 1\t\n", "trace 1\r\n", "trace 1\x00\n", "\ufefftrace 1\n", "\ntrace 1\n", "trace\n1\n", "trace 1\n\n", "trace 1\ntrace 1\n",
		"trace 01\n", "trace 001\n", "trace +1\n", "trace -1\n", "trace 1.\n", "trace 0x1\n", "trace a\n", "trace one\n", "trace 1 1\n", "trace 1,\n", "trace: 1\n", "trace 1:\n", "trace \uff11\n", "trace \xb1\n", "trace 1\xff\n",
		"trace 0\n", "trace 00\n", "trace 2\n", "trace 3\n", "trace 4\n", "trace 5\n", "trace 11\n", "trace 10\n", "trace 256\n", "trace 257\n", "trace 4294967297\n", "trace 18446744073709551617\n",
	} {
		wantUntold(t, "another first line alone", first)
		wantUntold(t, "another first line", first+"core 0\n")
		wantUntold(t, "another first line", first+"core 0\nw 0x1f 5\n")
	}
	wantTold(t, "the first line", "trace 1\ncore 0\nw 0x1f 5\n", [][]impl.Event{{store(31, 5)}})
	wantUntold(t, "the first line alone", "trace 1\n")
	wantUntold(t, "the first line without its end", "trace 1")
}

// coreLines are so many cores without events, told without the first line.
func coreLines(numbers ...int) string {
	text := ""
	for _, n := range numbers {
		text += fmt.Sprintln("core", n)
	}
	return text
}

func TestParseTraceTakesOneCoreToFour(t *testing.T) {
	for count := 1; count <= 4; count++ {
		numbers := []int{0, 1, 2, 3}[:count]
		wantTold(t, "as many cores as told", fmt.Sprintf("trace %d\n", count)+coreLines(numbers...), make([][]impl.Event, count))
	}
	for told := range 12 {
		first := fmt.Sprintf("trace %d\n", told)
		for there := range 12 {
			var numbers []int
			for n := range there {
				numbers = append(numbers, n)
			}
			if told == there && told >= 1 && told <= 4 {
				continue
			}
			wantUntold(t, "not as many cores as told", first+coreLines(numbers...))
			wantUntold(t, "not as many cores as told, with an event", first+coreLines(numbers...)+"r 0x0 0\n")
		}
	}
	for _, told := range []string{"-1", "00", "04", "100", "999999", "1000000", "9223372036854775808"} {
		wantUntold(t, "cores out of bounds", "trace "+told+"\n"+coreLines(0, 1, 2, 3))
	}
}

func TestParseTraceRefusesCoresThatAreNumberedWrong(t *testing.T) {
	good := []int{0, 1, 2, 3}
	for i := range 256 {
		numbers := []int{i % 4, i / 4 % 4, i / 16 % 4, i / 64}
		for count := 1; count <= 4; count++ {
			text := fmt.Sprintf("trace %d\n", count) + coreLines(numbers[:count]...)
			if slices.Equal(numbers[:count], good[:count]) {
				wantTold(t, "from 0 on", text, make([][]impl.Event, count))
			} else {
				wantUntold(t, "numbered wrong", text)
			}
		}
	}
	wantUntold(t, "from 1 on", "trace 1\ncore 1\n")
	wantUntold(t, "from 1 on", "trace 4\ncore 1\ncore 2\ncore 3\ncore 4\n")
	wantUntold(t, "backward", "trace 2\ncore 1\ncore 0\n")
	wantUntold(t, "twice", "trace 2\ncore 0\ncore 0\n")
	wantUntold(t, "twice, with events", "trace 1\ncore 0\nr 0x0 0\ncore 0\nr 0x0 0\n")
	for _, line := range []string{
		"core", "core ", "core  0", " core 0", "core 0 ", "core\t0", "core0", "cor 0", "cores 0", "Core 0", "CORE 0", "core 00", "core +0", "core -0", "core -1", "core 0x0", "core a", "core 0.", "core 0 0", "core 0:",
		"core 0\r", "core 0\x00", "core \xb0", "core \uff10", "core\u00a00", "0", "trace 0", "trace 1", "core 4", "core 5", "core 256", "core 4294967296", "core 18446744073709551616", "core zero", "core nought", "core\n0",
	} {
		wantUntold(t, "another line of a core", "trace 1\n"+line+"\n")
		wantUntold(t, "another line of a core, with an event", "trace 1\n"+line+"\nr 0x0 0\n")
		wantUntold(t, "another line of a core ahead", "trace 2\n"+line+"\ncore 1\n")
	}
	for _, line := range []string{"core 01", "core 0", "core 2", "core 1 ", "core  1", "core +1", "core 0x1", "core 1\r", "core\t1"} {
		wantUntold(t, "another line of the second core", "trace 2\ncore 0\n"+line+"\n")
		wantUntold(t, "another line of the second core", "trace 3\ncore 0\n"+line+"\ncore 2\nr 0x0 0\n")
	}
}

func TestParseTraceRefusesAnEventAheadOfTheFirstCore(t *testing.T) {
	for _, line := range []string{"r 0x0 0\n", "w 0x1f 5\n"} {
		wantUntold(t, "an event and no core", "trace 0\n"+line)
		wantUntold(t, "an event and no core", "trace 1\n"+line)
		wantUntold(t, "ahead of the core", "trace 1\n"+line+"core 0\n")
		wantUntold(t, "ahead of the cores", "trace 2\n"+line+"core 0\ncore 1\n")
		wantUntold(t, "ahead of the core that has it", "trace 1\n"+line+"core 0\n"+line)
		wantUntold(t, "ahead of the first line", line+"trace 1\ncore 0\n")
		wantUntold(t, "alone", line)
	}
}

// badLines stand where an event may stand, and are none.
func badLines() []string {
	lines := []string{
		// Nothing, or blanks.
		"", " ", "  ", "\t", "\r", "\x00", "\u00a0", "\n",
		// Another kind.
		"x 0x1 1", "R 0x1 1", "W 0x1 1", "l 0x1 1", "s 0x1 1", "0 0x1 1", "1 0x1 1", "rw 0x1 1", "rr 0x1 1", "ww 0x1 1", " 0x1 1", "0x1 1", "read 0x1 1", "load 0x1 1", "\u0433 0x1 1", "\xf2 0x1 1", "-r 0x1 1", "core 0x1 1", "trace 1 1",
		// More blanks than one, or others.
		"r  0x1 1", "r 0x1  1", " r 0x1 1", "r 0x1 1 ", "w  0x1 1", "w 0x1  1", "  w 0x1 1", "w 0x1 1  ", "r\t0x1 1", "r 0x1\t1", "r 0x1 1\t", "r\u00a00x1 1", "r 0x1\u20021", "r\v0x1 1", "r_0x1_1", "r,0x1,1",
		// A part that is missing, or one too many.
		"r", "w", "r ", "w ", "r 0x1", "w 0x1", "r 0x1 ", "w 0x1 ", "r 1", "w 1", "r  1", "w  1", "r0x1 1", "r 0x11", "r0x11", "r 0x1 1 1", "w 0x1 1 1", "r 0x1 1 0x1", "r r 0x1 1", "w w 0x1 1", "r w 0x1 1", "r 0x1 0x1 1", "r 0x1 1 r 0x1 1", "r 0x1 1;",
		// Parts in another order.
		"0x1 r 1", "r 1 0x1", "w 1 0x1", "1 0x1 r", "0x1 1 r",
		// A carriage return.
		"r 0x1 1\r", "w 0x1 1\r", "r\r 0x1 1", "r 0x1\r 1", "\rr 0x1 1",
	}
	for _, word := range []string{
		"", "0x", "0x00", "0x01", "0x0f", "0X1", "0xF", "0x1F", "0xg", "x1", "1", "0", "31", "-0x1", "+0x1", "0x-1", "0x+1", "0x1.", "0x1_0", "0x0x1", "0x\xb1", "0x\uff11",
		"0xf4240", "0xfffff", "0x100000", "0x7fffffffffffffff", "0xffffffffffffffff", "0x10000000000000000", "0x10000000000000001",
	} {
		lines = append(lines, "r "+word+" 1", "w "+word+" 1", "w "+word+" 0")
	}
	for _, word := range []string{
		"", "00", "01", "+1", "-1", "-0", "1.", "1.0", "1_0", "1e3", "a", "0x1", "0x0", "x", "\xb1", "\uff11",
		"1000000", "1000001", "9999999", "9223372036854775807", "9223372036854775808", "18446744073709551616", "18446744073709551617",
	} {
		lines = append(lines, "r 0x1 "+word, "w 0x1 "+word, "w 0x0 "+word)
	}
	return lines
}

func TestParseTraceRefusesLinesThatAreNoEvents(t *testing.T) {
	for _, line := range badLines() {
		line += "\n"
		wantUntold(t, "another line", "trace 1\ncore 0\n"+line)
		wantUntold(t, "another line ahead of an event", "trace 1\ncore 0\n"+line+"w 0x1f 5\n")
		wantUntold(t, "another line behind an event", "trace 1\ncore 0\nw 0x1f 5\n"+line)
		wantUntold(t, "another line between events", "trace 1\ncore 0\nw 0x1f 5\n"+line+"r 0x0 12\n")
		wantUntold(t, "another line ahead of a core", "trace 2\ncore 0\nw 0x1f 5\n"+line+"core 1\n")
		wantUntold(t, "another line in the last core", "trace 3\ncore 0\ncore 1\ncore 2\n"+line)
		wantUntold(t, "another line ahead of the first core", "trace 1\n"+line+"core 0\n")
		wantUntold(t, "another line ahead of all", line+"trace 1\ncore 0\n")
	}
}

func TestACoreOfATextHasEightEventsAndNotNine(t *testing.T) {
	for _, e := range []impl.Event{load(0, 0), store(31, 5), load(999999, 999999)} {
		for size := range 30 {
			lines := strings.Repeat(eventLine(e)+"\n", size)
			list := manyOf(size, e)
			for text, cores := range map[string][][]impl.Event{
				"trace 1\ncore 0\n" + lines:                                       {list},
				"trace 2\ncore 0\n" + lines + "core 1\n":                          {list, nil},
				"trace 2\ncore 0\ncore 1\n" + lines:                               {nil, list},
				"trace 3\ncore 0\ncore 1\n" + lines + "core 2\n" + "w 0x1f 5\n":   {nil, list, {store(31, 5)}},
				"trace 4\ncore 0\nw 0x1f 5\ncore 1\ncore 2\ncore 3\n" + lines:     {{store(31, 5)}, nil, nil, list},
				"trace 3\ncore 0\n" + lines + "core 1\n" + lines + "core 2\n":     {list, list, nil},
				"trace 2\ncore 0\nw 0x1f 5\nw 0x1f 5\ncore 1\n" + lines:           {manyOf(2, store(31, 5)), list},
				"trace 2\ncore 0\n" + lines + "core 1\n" + "w 0x1f 5\nw 0x1f 5\n": {list, manyOf(2, store(31, 5))},
			} {
				if size <= 8 {
					wantTold(t, "up to eight events", text, cores)
				} else {
					wantUntold(t, "more than eight events", text)
				}
			}
		}
	}
}

func TestTextsThatAreCutOffOrGoOnAreRefused(t *testing.T) {
	for _, cores := range someTraces() {
		text := printedByHand(cores)
		for size := range text {
			// What is cut off behind a line may be a trace of its own only if
			// the last lines are events.
			if text[:size] != "" && text[size-1] != '\n' {
				wantUntold(t, "cut off", text[:size])
			}
			wantParsed(t, "cut off", text[:size], parsedByHand(text[:size]))
		}
		wantUntold(t, "the last line without its end", text[:len(text)-1])
		for _, more := range []string{
			"\n", "\n\n", " ", " \n", "\r", "\r\n", "\x00", "\x00\n", "\t\n", "\x1a", "\xff", "\ufeff", "x", "x\n", "r", "core", "core 4", "core 4\n", "core 0\n", "trace 1\n", "end\n", "r 0x0 0", "w 0x1f 5", "#\n", "\v", "\u2028",
		} {
			wantUntold(t, "something behind the end", text+more)
		}
		wantUntold(t, "twice", text+text)
		wantUntold(t, "a line feed ahead", "\n"+text)
		wantUntold(t, "a blank ahead", " "+text)
		wantUntold(t, "a byte order mark ahead", "\ufeff"+text)
		wantUntold(t, "carriage returns", strings.ReplaceAll(text, "\n", "\r\n"))
		wantUntold(t, "carriage returns alone", strings.ReplaceAll(text, "\n", "\r"))
		wantUntold(t, "one line", strings.ReplaceAll(text, "\n", ";"))
		wantUntold(t, "two line feeds", strings.ReplaceAll(text, "\n", "\n\n"))
		wantUntold(t, "blanks behind", strings.ReplaceAll(text, "\n", " \n"))
		wantUntold(t, "two blanks", strings.ReplaceAll(text, " ", "  "))
		wantUntold(t, "great letters", strings.ToUpper(text))
	}
}

func TestParseTraceOfNothing(t *testing.T) {
	wantUntold(t, "no byte", "")
	for a := range 256 {
		wantUntold(t, "one byte", string([]byte{byte(a)}))
		for b := range 256 {
			wantUntold(t, "two bytes", string([]byte{byte(a), byte(b)}))
		}
	}
}

// Too many bytes are told ahead of all else, and 2000 are not too many; no
// trace has a text as long as that.
func TestATextHas2000BytesAtMost(t *testing.T) {
	longest := printedByHand(slices.Repeat([][]impl.Event{manyOf(8, store(999999, 999999))}, 4))
	wantTold(t, "the longest text", longest, slices.Repeat([][]impl.Event{manyOf(8, store(999999, 999999))}, 4))
	for name, text := range map[string]string{
		"noughts":           strings.Repeat("\x00", 5000),
		"line feeds":        strings.Repeat("\n", 5000),
		"blanks":            strings.Repeat(" ", 5000),
		"no rule":           string(someBytes(5000)),
		"a text ahead":      longest + strings.Repeat("\n", 5000),
		"many events":       "trace 1\ncore 0\n" + strings.Repeat("r 0x0 0\n", 1000),
		"many cores":        "trace 4\n" + strings.Repeat("core 0\n", 1000),
		"many texts":        strings.Repeat("trace 1\ncore 0\n", 1000),
		"a long number":     "trace " + strings.Repeat("1", 5000),
		"a long hex number": "trace 1\ncore 0\nr 0x" + strings.Repeat("f", 5000),
		"a long word":       strings.Repeat("r", 5000),
		"signs of 2 bytes":  strings.Repeat("\u00e9", 2500),
		"signs of 4 bytes":  strings.Repeat("\U0001d7ce", 1250),
	} {
		for _, size := range []int{1997, 1998, 1999, 2000} {
			wantUntold(t, name, text[:size])
		}
		for size := 2001; size <= 5000; size += 111 {
			wantParsed(t, name, text[:size], impl.TraceResult{Code: impl.ErrMany})
		}
	}
	good := "trace 1\ncore 0\nr 0x0 0\n"
	for size := len(good) + 1; size <= 2000; size++ {
		wantUntold(t, "line feeds behind", good+strings.Repeat("\n", size-len(good)))
	}
	wantParsed(t, "very many bytes", strings.Repeat("trace 1\n", 1000000), impl.TraceResult{Code: impl.ErrMany})
}

// checkText: what is read is the trace whose text it is, and what is refused
// is none.
func checkText(t *testing.T, name string, text string) {
	t.Helper()
	wantParsed(t, name, text, parsedByHand(text))
}

func TestEachTraceHasOneText(t *testing.T) {
	signs := "019abfFxXrwcoretn -+.:\n\r\t\x00\x80\xff"
	for i, cores := range someTraces() {
		text := printedByHand(cores)
		// In long texts fewer other bytes are tried, for the time it takes.
		step := 1 + len(text)/40
		for at := range text {
			ahead, behind := text[:at], text[at+1:]
			checkText(t, "a byte is gone", ahead+behind)
			checkText(t, "a byte is there twice", text[:at+1]+text[at:])
			for j := (i + at) % step; j < len(signs); j += step {
				checkText(t, "a byte is turned", ahead+signs[j:j+1]+behind)
				checkText(t, "a byte is put in", ahead+signs[j:j+1]+text[at:])
			}
			for b := (i + at) % (6 * step); b < 256; b += 6 * step {
				checkText(t, "a byte is turned", ahead+string([]byte{byte(b)})+behind)
				checkText(t, "a byte is put in", ahead+string([]byte{byte(b)})+text[at:])
			}
		}
	}
}

func TestParseTraceOfAnyLines(t *testing.T) {
	more := []string{"", "trace 1\n", "trace 2\n", "core 0\n", "core 1\n", "core 2\n", "core 3\n", "core 4\n", "r 0x0 0\n", "w 0x1f 5\n", "x 0x1 1\n", "\n"}
	for _, cores := range someTraces() {
		lines := strings.SplitAfter(printedByHand(cores), "\n")
		for at := range lines {
			ahead, behind := strings.Join(lines[:at], ""), strings.Join(lines[at:], "")
			checkText(t, "lines turned round", behind+ahead)
			for _, line := range more {
				checkText(t, "a line is put in", ahead+line+behind)
				checkText(t, "a line is another one", ahead+line+strings.Join(lines[min(at+1, len(lines)):], ""))
			}
			for other := range at {
				turned := slices.Clone(lines)
				turned[at], turned[other] = turned[other], turned[at]
				checkText(t, "two lines are turned", strings.Join(turned, ""))
			}
		}
	}
	for seed := range int64(20000) {
		text := fmt.Sprintf("trace %d\n", 1+seed%4)
		for _, e := range patternSteps(int(seed%13), seed) {
			text += more[e.Value%int64(len(more))]
		}
		checkText(t, "any lines", text)
	}
}

func TestParseTraceOfAnyBytes(t *testing.T) {
	for size := range 2100 {
		data := string(someBytes(size))
		checkText(t, "no rule", data)
		checkText(t, "a first line", "trace 1\n"+data)
		checkText(t, "a core", "trace 1\ncore 0\n"+data)
		checkText(t, "an event", "trace 1\ncore 0\nr 0x"+data)
	}
}

func TestNoTraceIsChangedByItsText(t *testing.T) {
	traces := someTraces()
	for _, c := range faultyTraces() {
		if len(c.cores) < 100 {
			traces = append(traces, c.cores)
		}
	}
	for _, cores := range traces {
		whole := withRoom(cores)
		before := cloneTrace(whole)
		given := slices.Clone(whole)
		for i := range cores {
			given[i] = whole[i][:len(cores[i])]
		}
		impl.PrintTrace(given[:len(cores)])
		for i := range given {
			if i < len(cores) && len(given[i]) != len(cores[i]) {
				t.Errorf("row %d of %v is another one now", i, cores)
			}
			given[i] = given[i][:len(before[i])]
		}
		if !sameRows(whole, before) || !sameRows(given, before) {
			t.Errorf("the trace %v is changed", cores)
		}
	}
}

// A text holds what the trace was, whatever the trace becomes.
func TestTextsDoNotTurnWithTheirTraces(t *testing.T) {
	for _, cores := range someTraces() {
		given := cloneTrace(cores)
		text := mustPrint(t, given)
		for _, list := range given {
			spoil(list)
		}
		clear(given)
		if text != printedByHand(cores) || mustPrint(t, cores) != text {
			t.Fatalf("the text of %v turns with the argument", cores)
		}
	}
}

func TestTracesOfTextsAreNewMemory(t *testing.T) {
	for _, cores := range someTraces() {
		text := printedByHand(cores)
		for core := range cores {
			first, second := impl.ParseTrace(text).Cores, impl.ParseTrace(text).Cores
			want := cloneTrace(cores)
			spoil(first[core])
			want[core] = slices.Clone(first[core])
			if !sameRows(first, want) {
				t.Fatalf("two lists of one answer share memory: %v", cores)
			}
			clear(first[:cap(first)])
			if !sameRows(second, cores) {
				t.Fatalf("two answers of ParseTrace share memory: %v", cores)
			}
		}
	}
}

// A row that goes on in the memory behind it must not reach another one.
func TestRowsOfATextDoNotGoOnInOneAnother(t *testing.T) {
	for _, cores := range someTraces() {
		answer := impl.ParseTrace(printedByHand(cores)).Cores
		for i := range answer {
			_ = append(answer[i], manyOf(9, load(9, 9))...)
		}
		if !sameRows(answer, cores) {
			t.Fatalf("two lists of one answer share memory: %v", cores)
		}
	}
}

// textAnswers asks each function of the chapter.
func textAnswers(cores [][]impl.Event, n int64, text string) []string {
	word, _, _ := strings.Cut(text, "\n")
	digits := strings.TrimPrefix(word, "trace ")
	e := impl.Event{Kind: n % 3, Addr: n, Value: n * 7}
	return []string{
		fmt.Sprint(impl.HexOf(n), impl.ReadHex("0x"+digits), impl.NumberOf(digits), impl.ReadHex(word), impl.NumberOf(word)),
		fmt.Sprint(impl.EventText(e)),
		fmt.Sprint(impl.PrintTrace(cores)),
		fmt.Sprint(impl.ParseTrace(text)),
	}
}

// What is kept from a text that was refused half-way would turn the answers
// that follow.
func TestAnswersAboutTextsHangOnTheArgumentsAlone(t *testing.T) {
	traces := someTraces()
	textAt := func(i int) string {
		text := printedByHand(traces[i])
		return text[:len(text)-i%3*(i%len(text))/3]
	}
	var before [][]string
	for i, cores := range traces {
		before = append(before, textAnswers(cores, int64(i*i*300), textAt(i)))
	}
	for i := len(traces) - 1; i >= 0; i-- {
		if after := textAnswers(traces[i], int64(i*i*300), textAt(i)); !slices.Equal(after, before[i]) {
			t.Errorf("the answers about trace %d are %v, and were %v", i, after, before[i])
		}
	}
}
