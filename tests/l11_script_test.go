package tests

import (
	"bytes"
	"encoding/hex"
	"fmt"
	"math"
	"slices"
	"strconv"
	"strings"
	"testing"

	"loop.example/g00800/impl"
)

// wordsByHand follows the words of the document, as all the functions by hand
// below.
func wordsByHand(line string) []string {
	var words []string
	word := ""
	for _, b := range []byte(line + " ") {
		if b != 32 {
			word += string([]byte{b})
			continue
		}
		if word != "" {
			words = append(words, word)
		}
		word = ""
	}
	return words
}

func jobFaultByHand(j impl.Job) int64 {
	code := programsFaultByHand(j.Programs)
	switch {
	case code != impl.OK:
		return code
	case j.Lines < 1 || j.Lines > 4:
		return impl.ErrRange
	case len(j.Picks) > 100:
		return impl.ErrMany
	}
	return impl.OK
}

func cloneJob(j impl.Job) impl.Job {
	return impl.Job{Programs: clonePrograms(j.Programs), Lines: j.Lines, Picks: slices.Clone(j.Picks)}
}

func alikeJobs(a impl.Job, b impl.Job) bool {
	return samePrograms(a.Programs, b.Programs) && a.Lines == b.Lines && slices.Equal(a.Picks, b.Picks)
}

// formOf has an n for each number behind the first word: no word has a blank,
// so that no other words have this form.
func formOf(words []string) (string, []int64) {
	form := words[0]
	var numbers []int64
	for _, word := range words[1:] {
		number := numberByHand(word)
		numbers = append(numbers, number.Value)
		if number.Code == impl.OK {
			word = "n"
		} else {
			word = "no number"
		}
		form += " " + word
	}
	return form, numbers
}

// turnedJobByHand is of words that turn a job; false, if these do not.
func turnedJobByHand(j impl.Job, form string, n []int64) (impl.Job, int64, bool) {
	j = cloneJob(j)
	switch form {
	case "cores n":
		if n[0] < 1 || n[0] > 4 {
			return j, impl.ErrRange, true
		}
		j.Programs, j.Picks = make([][]impl.Op, n[0]), nil
	case "lines n":
		if n[0] < 1 || n[0] > 4 {
			return j, impl.ErrRange, true
		}
		j.Lines = n[0]
	case "r n n", "w n n n":
		if n[0] >= int64(len(j.Programs)) {
			return j, impl.ErrNone, true
		}
		o := impl.Op{Addr: n[1]}
		if len(n) == 3 {
			o = impl.Op{Kind: 1, Addr: n[1], Value: n[2]}
		}
		j.Programs[n[0]] = append(j.Programs[n[0]], o)
	case "pick n":
		j.Picks = append(j.Picks, n[0])
	default:
		return j, impl.OK, false
	}
	return j, jobFaultByHand(j), true
}

// saidByHand is of words that turn nothing. The log is that of one memory
// without caches.
func saidByHand(j impl.Job, form string, n []int64) (string, int64) {
	log := oneMemory(j.Programs, j.Picks)
	cores := splitByHand(log, int64(len(j.Programs)))
	switch form {
	case "log":
		said := ""
		for _, s := range log {
			said += fmt.Sprintf(" %d:%c_0x%x_%d", s.Core, "rw"[s.Event.Kind], s.Event.Addr, s.Event.Value)
		}
		if said == "" {
			return "none", impl.OK
		}
		return said[1:], impl.OK
	case "trace":
		return strings.Join(strings.Split(printedByHand(cores), "\n"), ";"), impl.OK
	case "file n":
		if n[0] < 1 || n[0] > 8 {
			return "", impl.ErrRange
		}
		return hex.EncodeToString(fileByHand(cores, int(n[0]))), impl.OK
	case "check":
		checked := checkedByHand(cores, ordersByHand(log))
		said := map[bool]string{true: "yes", false: "no"}[checked.Accept]
		for _, core := range checked.Witness {
			said += fmt.Sprint(" ", core)
		}
		return said, impl.OK
	}
	return "", impl.ErrText
}

func steppedByHand(j impl.Job, line string) impl.ScriptResult {
	code := jobFaultByHand(j)
	switch {
	case code != impl.OK:
		return impl.ScriptResult{Code: code}
	case strings.IndexByte(line, 10) >= 0:
		return impl.ScriptResult{Code: impl.ErrText}
	case len(line) > 3000:
		return impl.ScriptResult{Code: impl.ErrMany}
	}
	words := wordsByHand(line)
	if len(words) == 0 {
		return impl.ScriptResult{Job: cloneJob(j)}
	}
	form, numbers := formOf(words)
	said := "ok"
	turned, code, turns := turnedJobByHand(j, form, numbers)
	if !turns {
		said, code = saidByHand(j, form, numbers)
	}
	if code != impl.OK {
		return impl.ScriptResult{Code: code}
	}
	return impl.ScriptResult{Job: turned, Said: said}
}

// linesByHand cuts a text byte by byte.
func linesByHand(text string) []string {
	var lines []string
	from := 0
	for at, b := range []byte(text) {
		if b == 10 {
			lines = append(lines, text[from:at])
			from = at + 1
		}
	}
	if from < len(text) {
		lines = append(lines, text[from:])
	}
	return lines
}

func scriptByHand(j impl.Job, text string) impl.ScriptResult {
	code := jobFaultByHand(j)
	lines := linesByHand(text)
	switch {
	case code != impl.OK:
		return impl.ScriptResult{Code: code}
	case len(text) > 3000 || len(lines) > 60:
		return impl.ScriptResult{Code: impl.ErrMany}
	}
	done := impl.ScriptResult{Job: cloneJob(j)}
	for _, line := range lines {
		step := steppedByHand(done.Job, line)
		switch {
		case step.Code != impl.OK:
			done.Said += fmt.Sprintln("!", step.Code)
			continue
		case step.Said != "":
			done.Said += step.Said + "\n"
		}
		done.Job = step.Job
	}
	return done
}

func shortOf(text string) string {
	return text[:min(len(text), 200)]
}

func wantWords(t *testing.T, name string, line string, want impl.TextsResult) {
	t.Helper()
	if got := impl.WordsOf(line); got.Code != want.Code || !slices.Equal(got.Words, want.Words) {
		t.Fatalf("%s: WordsOf of %d bytes (%q ..) is code %d and %d words, not code %d and %d words", name, len(line), shortOf(line), got.Code, len(got.Words), want.Code, len(want.Words))
	}
}

func wantJobFault(t *testing.T, name string, j impl.Job, code int64) {
	t.Helper()
	if byHand := jobFaultByHand(j); byHand != code {
		t.Fatalf("%s: by hand the code is %d, not %d", name, byHand, code)
	}
	wantCode(t, name, impl.JobFault(j), code)
}

// wantScripted: beside a code all else is zero.
func wantScripted(t *testing.T, name string, text string, got impl.ScriptResult, want impl.ScriptResult) {
	t.Helper()
	if got.Code != want.Code || got.Said != want.Said || !alikeJobs(got.Job, want.Job) {
		t.Fatalf("%s: of %d bytes (%q ..) the answer is %+v, not %+v", name, len(text), shortOf(text), got, want)
	}
}

func wantStep(t *testing.T, name string, j impl.Job, line string, want impl.ScriptResult) {
	t.Helper()
	wantScripted(t, name+", by hand", line, steppedByHand(j, line), want)
	wantScripted(t, name, line, impl.StepScript(j, line), want)
}

func wantSaid(t *testing.T, name string, j impl.Job, line string, said string) {
	t.Helper()
	wantStep(t, name, j, line, impl.ScriptResult{Job: j, Said: said})
}

// wantNoStep: as a line of a script, such a line leaves the job as it was.
func wantNoStep(t *testing.T, name string, j impl.Job, line string, code int64) {
	t.Helper()
	wantStep(t, name, j, line, impl.ScriptResult{Code: code})
	if jobFaultByHand(j) != impl.OK || len(line) > 3000 || strings.Contains(line, "\n") {
		return
	}
	wantRun(t, name, j, line, impl.ScriptResult{Job: j, Said: fmt.Sprintln("!", code)})
}

func wantRun(t *testing.T, name string, j impl.Job, text string, want impl.ScriptResult) {
	t.Helper()
	wantScripted(t, name+", by hand", text, scriptByHand(j, text), want)
	wantScripted(t, name, text, impl.RunScript(j, text), want)
}

// emptyJob is of so many programs without ops.
func emptyJob(cores int) impl.Job {
	return impl.Job{Programs: make([][]impl.Op, cores), Lines: 1}
}

// smallJob has each of its lists, and each program other ops.
func smallJob() impl.Job {
	return impl.Job{Programs: [][]impl.Op{{stores(31, 5), loads(2)}, {loads(31)}}, Lines: 2, Picks: []int64{1, 0, 7}}
}

func fullJob(seed int64) impl.Job {
	return impl.Job{Programs: fullPrograms(), Lines: seed%4 + 1, Picks: anyPicks(100, seed)}
}

func anyJob(seed int64) impl.Job {
	return impl.Job{Programs: anyPrograms(int(seed%4)+1, seed%5+1, seed), Lines: seed/4%4 + 1, Picks: anyPicks(int(seed*7%100), seed)}
}

// someJobs have no fault.
func someJobs() []impl.Job {
	jobs := []impl.Job{smallJob(), fullJob(0), fullJob(3)}
	for cores := 1; cores <= 4; cores++ {
		jobs = append(jobs, emptyJob(cores), impl.Job{Programs: slices.Repeat([][]impl.Op{{}}, cores), Lines: 4, Picks: []int64{}},
			impl.Job{Programs: make([][]impl.Op, cores), Lines: 3, Picks: []int64{0, 3, -1, math.MaxInt64}},
			impl.Job{Programs: fullPrograms()[:cores], Lines: 2, Picks: []int64{999999, -1, 5, 3, 2, 1, 0}})
	}
	for seed := range int64(40) {
		jobs = append(jobs, anyJob(seed))
	}
	return jobs
}

type jobCase struct {
	name string
	job  impl.Job
	want int64
}

// faultyJobs are jobs with a fault, each with its code.
func faultyJobs() []jobCase {
	good, picks := smallJob().Programs, make([]int64, 101)
	jobs := []jobCase{
		{"the zero value", impl.Job{}, impl.ErrMany},
		{"no programs", impl.Job{Lines: 1}, impl.ErrMany},
		{"an empty list of programs", impl.Job{Programs: [][]impl.Op{}, Lines: 1}, impl.ErrMany},
		{"five programs", impl.Job{Programs: make([][]impl.Op, 5), Lines: 1}, impl.ErrMany},
		{"very many programs", impl.Job{Programs: make([][]impl.Op, 100000), Lines: 1}, impl.ErrMany},
		{"nine ops", impl.Job{Programs: [][]impl.Op{manyOps(9, loads(1))}, Lines: 1}, impl.ErrMany},
		{"nine ops of the last program", impl.Job{Programs: [][]impl.Op{{loads(1)}, nil, nil, manyOps(9, loads(1))}, Lines: 1}, impl.ErrMany},
		{"no kind ahead of nine ops", impl.Job{Programs: [][]impl.Op{{{Kind: 2}}, manyOps(9, loads(1))}, Lines: 1}, impl.ErrForm},
		{"101 picks", impl.Job{Programs: good, Lines: 1, Picks: picks}, impl.ErrMany},
		{"101 picks of nobody", impl.Job{Programs: good, Lines: 4, Picks: slices.Repeat([]int64{-1}, 101)}, impl.ErrMany},
		{"very many picks", impl.Job{Programs: good, Lines: 1, Picks: make([]int64, 100000)}, impl.ErrMany},
		{"101 picks, and no ops", impl.Job{Programs: make([][]impl.Op, 4), Lines: 1, Picks: picks}, impl.ErrMany},
		{"no lines", impl.Job{Programs: good}, impl.ErrRange},
	}
	for o, code := range faultyOps() {
		programs := [][]impl.Op{{loads(1)}, {stores(1, 1), o}}
		jobs = append(jobs, jobCase{"an op with a fault", impl.Job{Programs: programs, Lines: 1}, code},
			jobCase{"an op with a fault alone", impl.Job{Programs: [][]impl.Op{{o}}, Lines: 4}, code},
			jobCase{"an op with a fault, and no lines", impl.Job{Programs: programs}, code},
			jobCase{"an op with a fault, and 101 picks", impl.Job{Programs: programs, Lines: 5, Picks: picks}, code})
	}
	for _, lines := range append(beyond(), 0, -1, 5, 256, 257, 1<<32+1, math.MinInt64, math.MaxInt64) {
		jobs = append(jobs, jobCase{"no such lines", impl.Job{Programs: good, Lines: lines}, impl.ErrRange},
			jobCase{"no such lines, and 101 picks", impl.Job{Programs: good, Lines: lines, Picks: picks}, impl.ErrRange},
			jobCase{"no such lines, and no programs", impl.Job{Lines: lines, Picks: picks}, impl.ErrMany})
	}
	return jobs
}

func TestScriptConstants(t *testing.T) {
	if impl.MaxScript != 3000 || impl.MaxLines2 != 60 {
		t.Errorf("MaxScript is %d, not 3000, or MaxLines2 is %d, not 60", impl.MaxScript, impl.MaxLines2)
	}
}

func TestWordsOfHasTheWordsOfTheDocument(t *testing.T) {
	for line, want := range map[string][]string{
		"": nil, " ": nil, "  ": nil, strings.Repeat(" ", 100): nil,
		"a": {"a"}, " a": {"a"}, "a ": {"a"}, "  a   ": {"a"}, "abc": {"abc"},
		"a b": {"a", "b"}, " a  b ": {"a", "b"}, "b a": {"b", "a"}, "a a": {"a", "a"},
		"w 0 1 5": {"w", "0", "1", "5"}, "   r    0 31": {"r", "0", "31"}, "r 0 31   ": {"r", "0", "31"},
		"a\x00b \x00": {"a\x00b", "\x00"}, "\xff \xc3\x28": {"\xff", "\xc3\x28"}, "ä € 𝄞": {"ä", "€", "𝄞"},
	} {
		wantWords(t, "a line", line, impl.TextsResult{Words: want})
	}
}

// All other white space is no blank: neither as a byte nor as a rune.
func TestOtherWhiteSpaceIsNoBlank(t *testing.T) {
	for _, space := range []string{"\t", "\n", "\v", "\f", "\r", "\r\n", "\x00", "\x1c", "\x1f", "\x7f", "\x85", "\xa0", "\u0085", "\u00a0", "\u1680", "\u2000", "\u2003", "\u2028", "\u2029", "\u202f", "\u205f", "\u3000", "\ufeff"} {
		wantWords(t, "it alone", space, impl.TextsResult{Words: []string{space}})
		wantWords(t, "it between", "a"+space+"b", impl.TextsResult{Words: []string{"a" + space + "b"}})
		wantWords(t, "it at the edges", space+"a b"+space, impl.TextsResult{Words: []string{space + "a", "b" + space}})
		wantWords(t, "it between blanks", " "+space+" "+space+space+" ", impl.TextsResult{Words: []string{space, space + space}})
	}
	for b := range 256 {
		line := string([]byte{'a', byte(b), 'c'})
		want := []string{line}
		if b == 32 {
			want = []string{"a", "c"}
		}
		wantWords(t, "each byte", line, impl.TextsResult{Words: want})
	}
}

func TestWordsOfAllSmallLines(t *testing.T) {
	lines := []string{""}
	for from := 0; len(lines[from]) < 7; from++ {
		for _, sign := range []string{" ", "a", "\t"} {
			lines = append(lines, lines[from]+sign)
		}
	}
	for _, line := range lines {
		wantWords(t, "small lines", line, impl.TextsResult{Words: wordsByHand(line)})
		for _, word := range impl.WordsOf(line).Words {
			if word == "" || strings.Contains(word, " ") {
				t.Fatalf("a word of %q is %q", line, word)
			}
		}
	}
	for seed := range int64(300) {
		line := string(someBytes(int(seed * 10)))
		wantWords(t, "any bytes", line, impl.TextsResult{Words: wordsByHand(line)})
	}
}

func TestALineHas3000BytesAtMost(t *testing.T) {
	for _, size := range []int{2998, 2999, 3000, 3001, 3002, 6000, 1 << 20} {
		for _, piece := range []string{" ", "a", "a ", " ab", "\n", "\xff"} {
			line := strings.Repeat(piece, size)[:size]
			want := impl.TextsResult{Words: wordsByHand(line[:min(size, 3000)])}
			if size > 3000 {
				want = impl.TextsResult{Code: impl.ErrMany}
			}
			wantWords(t, fmt.Sprint(size, " bytes"), line, want)
		}
	}
	if words := impl.WordsOf(strings.Repeat("a ", 1500)).Words; len(words) != 1500 {
		t.Errorf("1500 words are %d", len(words))
	}
	// Bytes are counted, not signs.
	wantWords(t, "3000 bytes of 1500 signs", strings.Repeat("ä", 1500), impl.TextsResult{Words: []string{strings.Repeat("ä", 1500)}})
	wantWords(t, "3002 bytes of 1501 signs", strings.Repeat("ä", 1501), impl.TextsResult{Code: impl.ErrMany})
}

func TestHexTextOfEachByte(t *testing.T) {
	var all []byte
	text := ""
	for b := range 256 {
		digits := "0123456789abcdef"
		two := string([]byte{digits[b/16], digits[b%16]})
		wantText(t, fmt.Sprint("the byte ", b), impl.HexText([]byte{byte(b)}), impl.TextResult{Text: two})
		wantText(t, fmt.Sprint("the byte behind ", b), impl.HexText([]byte{byte(b), 160}), impl.TextResult{Text: two + "a0"})
		all = append(all, byte(b))
		text += two
	}
	wantText(t, "all bytes", impl.HexText(all), impl.TextResult{Text: text})
	wantText(t, "nil", impl.HexText(nil), impl.TextResult{})
	wantText(t, "no bytes", impl.HexText([]byte{}), impl.TextResult{})
	wantText(t, "of the document", impl.HexText([]byte{10, 255}), impl.TextResult{Text: "0aff"})
	wantText(t, "bytes with a 0", impl.HexText([]byte{0, 1, 0}), impl.TextResult{Text: "000100"})
	wantText(t, "room behind", impl.HexText(all[16:18]), impl.TextResult{Text: "1011"})
}

// Each text is read back as the bytes that it is of.
func TestHexTextHas2000BytesAtMost(t *testing.T) {
	for size := range 2000 {
		if size%37 == 0 || size > 1990 {
			data := someBytes(size)
			back, err := hex.DecodeString(impl.HexText(data).Text)
			if err != nil || !bytes.Equal(back, data) || impl.HexText(data).Code != impl.OK {
				t.Fatalf("the text of %d bytes is read back as %v, %v", size, back, err)
			}
		}
	}
	data := someBytes(2000)
	wantText(t, "2000 bytes", impl.HexText(data), impl.TextResult{Text: hex.EncodeToString(data)})
	for _, size := range []int{2001, 2002, 2048, 4000, 4001, 1 << 20} {
		wantText(t, fmt.Sprint(size, " bytes"), impl.HexText(someBytes(size)), impl.TextResult{Code: impl.ErrMany})
		wantText(t, fmt.Sprint(size, " bytes 0"), impl.HexText(make([]byte, size)), impl.TextResult{Code: impl.ErrMany})
	}
}

func TestJobFault(t *testing.T) {
	for i, j := range someJobs() {
		wantJobFault(t, fmt.Sprint("job ", i), j, impl.OK)
	}
	for _, c := range faultyJobs() {
		wantJobFault(t, c.name, c.job, c.want)
	}
	for lines := int64(-3); lines <= 8; lines++ {
		want := int64(impl.ErrRange)
		if lines >= 1 && lines <= 4 {
			want = impl.OK
		}
		wantJobFault(t, fmt.Sprint(lines, " lines"), impl.Job{Programs: make([][]impl.Op, 1), Lines: lines}, want)
		wantJobFault(t, fmt.Sprint(lines, " lines, and ops"), impl.Job{Programs: fullPrograms(), Lines: lines, Picks: make([]int64, 100)}, want)
	}
}

// Picks of nobody are no fault, as long as there are not too many of them.
func TestAJobHas100PicksAtMost(t *testing.T) {
	for _, pick := range append(beyond(), 0, 1, 3, 4, -1, 999999, 1000000, math.MinInt64, math.MaxInt64) {
		for _, size := range []int{0, 1, 99, 100, 101, 102, 128, 1000} {
			want := int64(impl.OK)
			if size > 100 {
				want = impl.ErrMany
			}
			name := fmt.Sprint(size, " picks of ", pick)
			j := impl.Job{Programs: make([][]impl.Op, 1), Lines: 1, Picks: slices.Repeat([]int64{pick}, size)}
			wantJobFault(t, name, j, want)
			j.Programs = smallJob().Programs
			wantJobFault(t, name+", and ops", j, want)
			j.Lines = 5
			wantJobFault(t, name+", and too many lines", j, impl.ErrRange)
			j.Programs = [][]impl.Op{{{Kind: 7}}}
			wantJobFault(t, name+", and no kind", j, impl.ErrForm)
		}
	}
	long := make([]int64, 101)
	wantJobFault(t, "room behind the picks", impl.Job{Programs: make([][]impl.Op, 1), Lines: 1, Picks: long[:100]}, impl.OK)
}

// A job without a fault is one that can be simulated, and the other way round.
func TestJobsWithoutAFaultAreSimulated(t *testing.T) {
	jobs := someJobs()
	for _, c := range faultyJobs() {
		jobs = append(jobs, c.job)
	}
	for _, j := range jobs {
		wantCode(t, "Simulate", impl.Simulate(j.Programs, j.Lines, j.Picks).Code, impl.JobFault(j))
		wantCode(t, "RunAll", impl.RunAll(j.Programs, j.Lines, j.Picks, 8).Code, impl.JobFault(j))
	}
}

// differentJobs are no two of them the same, with faults and without: each has
// one field alone that is another than that of one of two jobs.
func differentJobs() []impl.Job {
	jobs := []impl.Job{{}, smallJob()}
	add := func(turn func(j *impl.Job)) {
		of, none := smallJob(), impl.Job{}
		turn(&of)
		turn(&none)
		jobs = append(jobs, of, none)
	}
	base := smallJob().Programs
	for _, programs := range [][][]impl.Op{
		base[:1], base[1:], append(clonePrograms(base), nil), append([][]impl.Op{nil}, base...), {base[1], base[0]}, {base[0][:1], base[1]}, {base[0][1:], base[1]},
		{base[0], nil}, {base[0], base[0]}, {nil, base[1]}, {append(slices.Clone(base[0]), base[1]...), nil}, {base[0][:1], append(slices.Clone(base[0][1:]), base[1]...)},
		{base[0], {loads(32)}}, {base[0], {loads(31 + 1<<32)}}, {base[0], {{Kind: 1, Addr: 31}}}, {base[0], {{Kind: 2, Addr: 31}}}, {base[0], {{Addr: 31, Value: 1}}}, {base[0], {{Addr: 31, Value: math.MinInt64}}},
		{{stores(31, 6), loads(2)}, base[1]}, {{loads(2), stores(31, 5)}, base[1]}, {base[0], append(slices.Clone(base[1]), impl.Op{})},
		make([][]impl.Op, 1), make([][]impl.Op, 2), make([][]impl.Op, 5), {{{}}}, {{{}, {}}}, {{{}}, nil}, {nil, {{}}}, make([][]impl.Op, 100000), {manyOps(9, loads(1))}, {manyOps(100000, loads(1))},
	} {
		add(func(j *impl.Job) { j.Programs = programs })
	}
	for _, lines := range []int64{1, 3, 4, 5, -1, -2, 256, 1 << 32, 1<<32 + 2, math.MinInt64, math.MaxInt64} {
		add(func(j *impl.Job) { j.Lines = lines })
	}
	for _, picks := range [][]int64{{0}, {1}, {1, 0}, {0, 7}, {0, 1, 7}, {1, 7, 0}, {1, 0, 8}, {1, 0, -7}, {1, 0, 7 + 1<<32}, {1, 0, 7, 0}, {0, 1, 0, 7}, {-1}, {math.MinInt64}, make([]int64, 100), make([]int64, 101), make([]int64, 100000)} {
		add(func(j *impl.Job) { j.Picks = picks })
	}
	of, none := smallJob(), smallJob()
	of.Programs, none.Programs, none.Picks = nil, nil, nil
	jobs = append(jobs, of, none)
	of, none = smallJob(), smallJob()
	of.Lines, none.Lines, none.Programs = 0, 0, nil
	jobs = append(jobs, of, none)
	of, none = smallJob(), smallJob()
	of.Picks, none.Picks, none.Lines = nil, nil, 0
	return append(jobs, of, none)
}

func TestSameJobs(t *testing.T) {
	jobs := differentJobs()
	for i, a := range jobs {
		for k, b := range jobs {
			if got := impl.SameJobs(a, b); got != (i == k) {
				t.Fatalf("SameJobs of the jobs %d and %d is %v", i, k, got)
			}
		}
		if !impl.SameJobs(a, cloneJob(a)) || !impl.SameJobs(cloneJob(a), a) {
			t.Errorf("job %d is not the same as itself", i)
		}
	}
	for _, c := range faultyJobs() {
		if !impl.SameJobs(c.job, cloneJob(c.job)) || impl.SameJobs(c.job, smallJob()) || impl.SameJobs(smallJob(), c.job) {
			t.Errorf("%s: it is not the same as itself, or as one without a fault", c.name)
		}
	}
}

func TestNilAndEmptyAreTheSameInJobs(t *testing.T) {
	empty := impl.Job{Programs: [][]impl.Op{}, Picks: make([]int64, 0, 9)}
	if !impl.SameJobs(impl.Job{}, empty) || !impl.SameJobs(empty, impl.Job{}) {
		t.Error("nil and empty lists are not the same")
	}
	rows := impl.Job{Programs: [][]impl.Op{nil, {}, make([]impl.Op, 0, 4)}, Lines: 1}
	if !impl.SameJobs(rows, emptyJob(3)) || !impl.SameJobs(emptyJob(3), rows) || impl.SameJobs(rows, emptyJob(2)) {
		t.Error("nil and empty programs are not the same")
	}
	long := smallJob()
	short := impl.Job{Programs: [][]impl.Op{long.Programs[0][:1]}, Lines: 2, Picks: long.Picks[:1]}
	if !impl.SameJobs(short, cloneJob(short)) || !impl.SameJobs(cloneJob(short), short) {
		t.Error("what stands behind the end of a list is looked at")
	}
}

// allWords are the words that a line may begin with, each with how many letters
// stand behind it.
func allWords() map[string]int {
	return map[string]int{"cores": 1, "lines": 1, "r": 2, "w": 3, "pick": 1, "log": 0, "trace": 0, "file": 1, "check": 0}
}

// goodLines tell no code, asked of smallJob.
func goodLines() []string {
	return []string{"cores 1", "cores 2", "cores 4", "lines 1", "lines 4", "r 0 7", "r 1 999999", "w 0 31 6", "w 1 0 999999", "w 1 2 0", "pick 0", "pick 1", "pick 999999", "log", "trace", "file 1", "file 8", "check"}
}

// badNumbers are words, without a blank, that are no numbers of 0 to 999999.
func badNumbers() []string {
	return []string{"x", "C", "-1", "+1", "-0", "00", "01", "007", "1.0", "1,0", "1e3", "0x1", "0x", "1_0", "1a", "a1", "1000000", "1000001", "9999999", "18446744073709551616", "18446744073709551617", "9223372036854775808", strings.Repeat("9", 100), strings.Repeat("0", 100), "1\t", "\t1", "1\r", "\x001", "1\x00", "\u0661", "\uff11", "\u00a01", "1;", "\"1\"", "ok"}
}

func TestAJobWithAFaultIsNotGoneOnWith(t *testing.T) {
	lines := append(goodLines(), "", " ", "x", "log\n", "\n", strings.Repeat("x", 3001), "cores 5", "lines 0", "r 9 1", "file 0")
	for _, c := range faultyJobs() {
		for _, line := range lines {
			wantStep(t, c.name, c.job, line, impl.ScriptResult{Code: c.want})
			wantRun(t, c.name, c.job, line, impl.ScriptResult{Code: c.want})
		}
	}
}

func TestALineHasNoLineFeed(t *testing.T) {
	for _, j := range []impl.Job{smallJob(), emptyJob(1)} {
		for _, line := range append(goodLines(), "", " ", "x", "cores 9", "r 9 9") {
			for _, fed := range []string{line + "\n", "\n" + line, line + "\n" + line, " \n " + line, line + "\r\n", line + "\n\n"} {
				wantNoStep(t, "a line feed", j, fed, impl.ErrText)
			}
		}
		// It comes ahead of how long the line is.
		for _, at := range []int{0, 1, 1500, 3000, 3001, 4000} {
			line := strings.Repeat(" ", at) + "\n" + strings.Repeat(" ", 4000-at)
			wantNoStep(t, "a long line with a line feed", j, line, impl.ErrText)
		}
	}
}

func TestALineThatIsTooLong(t *testing.T) {
	for _, j := range []impl.Job{smallJob(), emptyJob(1)} {
		for _, line := range []string{"", "log", "cores 1", "r 0 1", "x"} {
			for _, size := range []int{2999, 3000, 3001, 3002, 100000} {
				behind := line + strings.Repeat(" ", size-len(line))
				ahead := strings.Repeat(" ", size-len(line)) + line
				want := steppedByHand(j, line)
				if size > 3000 {
					want = impl.ScriptResult{Code: impl.ErrMany}
				}
				wantStep(t, "blanks behind", j, behind, want)
				wantStep(t, "blanks ahead", j, ahead, want)
			}
		}
		wantNoStep(t, "one word of 3000 bytes", j, strings.Repeat("l", 3000), impl.ErrText)
		wantNoStep(t, "one word of 3001 bytes", j, strings.Repeat("l", 3001), impl.ErrMany)
		wantNoStep(t, "1500 words", j, strings.Repeat("w ", 1500), impl.ErrText)
		wantNoStep(t, "a number of many digits", j, "pick "+strings.Repeat("9", 2995), impl.ErrText)
	}
}

func TestALineWithoutWordsTurnsNothing(t *testing.T) {
	for _, j := range someJobs() {
		for _, size := range []int{0, 1, 2, 7, 100, 3000} {
			wantSaid(t, "blanks", j, strings.Repeat(" ", size), "")
		}
		for _, space := range []string{"\t", "\r", "\v", "\f", "\x00", "\u00a0", " \t ", "\u2003"} {
			wantNoStep(t, "other white space", j, space, impl.ErrText)
		}
	}
}

// Blanks ahead, behind and between turn nothing.
func TestBlanksMayStandAnywhere(t *testing.T) {
	for _, line := range append(goodLines(), "cores 5", "r 2 1", "x", "log 1") {
		want := steppedByHand(smallJob(), line)
		for _, more := range []string{" " + line, line + " ", "   " + line + "     ", strings.ReplaceAll(line, " ", "  "), "  " + strings.ReplaceAll(line, " ", "     ") + " "} {
			wantStep(t, "more blanks", smallJob(), more, want)
		}
		for _, space := range []string{"\t", "\r", "\v", "\u00a0"} {
			wantNoStep(t, "other white space ahead", smallJob(), space+line, impl.ErrText)
			wantNoStep(t, "other white space behind", smallJob(), line+space, impl.ErrText)
			if other := strings.ReplaceAll(line, " ", space); other != line {
				wantNoStep(t, "other white space between", smallJob(), other, impl.ErrText)
			}
		}
	}
}

func TestEachWordHasItsLetters(t *testing.T) {
	for word, count := range allWords() {
		for letters := range 8 {
			line := word + strings.Repeat(" 1", letters)
			if letters == count {
				if got := impl.StepScript(smallJob(), line); got.Code != impl.OK || got.Said == "" {
					t.Errorf("%q is not done: %+v", line, got)
				}
				wantStep(t, "as many letters", smallJob(), line, steppedByHand(smallJob(), line))
				continue
			}
			wantNoStep(t, "too few or too many letters", smallJob(), line, impl.ErrText)
			// What the letters that are too many would tell is not asked.
			wantNoStep(t, "other letters", smallJob(), word+strings.Repeat(" 0", letters), impl.ErrText)
			wantNoStep(t, "letters out of bounds", smallJob(), word+strings.Repeat(" 999999", letters), impl.ErrText)
		}
	}
}

func TestOtherWordsAreNone(t *testing.T) {
	for word, count := range allWords() {
		letters := strings.Repeat(" 1", count)
		others := []string{strings.ToUpper(word), strings.ToUpper(word[:1]) + word[1:], word + "s", word + "x", "x" + word, word + word, "_" + word[1:], word + ":", word + ";", word + "1", word + "\x00", "\ufeff" + word, word + "0", "`" + word + "`"}
		for _, other := range others {
			wantNoStep(t, "no word", smallJob(), other+letters, impl.ErrText)
			wantNoStep(t, "no word alone", smallJob(), " "+other, impl.ErrText)
		}
	}
	for _, line := range []string{"x", "foo", "0", "1", "ok", "yes", "no", "none", "!", "! 5", "#", "R 0 1", "W 0 1 2", "read 0 1", "load 0 1", "store 0 1 2", "core 0", "line 1", "picks 1", "core 1", "trace2", "1 cores", "0 r 1", "r0 1", "r 01", "w 0 1=5", "log trace", "log log", "check yes", "\xff", "ⅼog", "cores", "cores C", "w C A V"} {
		wantNoStep(t, "no such words", smallJob(), line, impl.ErrText)
	}
}

// A letter that is no number is told ahead of all else that is wrong.
func TestLettersAreNumbers(t *testing.T) {
	for word, count := range allWords() {
		for _, bad := range badNumbers() {
			for at := range count {
				for _, good := range []string{"0", "1", "9", "999999"} {
					letters := slices.Repeat([]string{good}, count)
					letters[at] = bad
					wantNoStep(t, "no number", smallJob(), word+" "+strings.Join(letters, " "), impl.ErrText)
				}
			}
		}
	}
	full := smallJob()
	full.Programs[0], full.Picks = manyOps(8, loads(1)), make([]int64, 100)
	for _, line := range []string{"r 0 x", "r 9 x", "w 0 1 x", "w 9 1 -1", "w 0 x 1", "pick x", "pick -1", "pick 1000000", "cores -1", "lines x", "file x"} {
		wantNoStep(t, "no number, of a full job", full, line, impl.ErrText)
	}
}

func TestCoresAre1To4(t *testing.T) {
	for _, j := range someJobs() {
		for cores := range 4 {
			want := impl.Job{Programs: make([][]impl.Op, cores+1), Lines: j.Lines}
			wantStep(t, "cores", j, fmt.Sprint("cores ", cores+1), impl.ScriptResult{Job: want, Said: "ok"})
		}
		for _, cores := range []int64{0, 5, 6, 8, 255, 256, 257, 65537, 999998, 999999} {
			wantNoStep(t, "no such cores", j, fmt.Sprint("cores ", cores), impl.ErrRange)
		}
		wantNoStep(t, "no number", j, "cores 1000000", impl.ErrText)
	}
}

// There is no more of the programs that were there, and what is laid behind the
// new ones is none of them.
func TestCoresBeginsAnew(t *testing.T) {
	for seed := range int64(8) {
		j := fullJob(seed)
		for _, to := range [][]int{{1}, {4}, {1, 4}, {4, 1}, {1, 2, 3, 4}, {4, 3, 2, 1}, {2, 4, 3}} {
			text := ""
			for _, cores := range to {
				text += fmt.Sprintln("w 0 7 7\ncores", cores)
			}
			last := to[len(to)-1]
			said := "! 2\nok\n" + strings.Repeat("ok\nok\n", len(to)-1)
			wantRun(t, "cores again and again", j, text, impl.ScriptResult{Job: impl.Job{Programs: make([][]impl.Op, last), Lines: j.Lines}, Said: said})
			wantRun(t, "and a log", j, text+"log\ncheck\n", impl.ScriptResult{Job: impl.Job{Programs: make([][]impl.Op, last), Lines: j.Lines}, Said: said + "none\nyes\n"})
		}
	}
}

func TestLinesAre1To4(t *testing.T) {
	for _, j := range someJobs() {
		for lines := int64(1); lines <= 4; lines++ {
			want := cloneJob(j)
			want.Lines = lines
			wantStep(t, "lines", j, fmt.Sprint("lines ", lines), impl.ScriptResult{Job: want, Said: "ok"})
		}
		for _, lines := range []int64{0, 5, 6, 8, 255, 256, 257, 65537, 999998, 999999} {
			wantNoStep(t, "no such lines", j, fmt.Sprint("lines ", lines), impl.ErrRange)
		}
		wantNoStep(t, "no number", j, "lines 1000000", impl.ErrText)
	}
}

// opLines are lines that tell an op of this core, with these ops.
func opLines(core int64) map[string]impl.Op {
	lines := map[string]impl.Op{}
	for _, addr := range []int64{0, 1, 9, 10, 31, 256, 999998, 999999} {
		lines[fmt.Sprint("r ", core, " ", addr)] = loads(addr)
		for _, value := range []int64{0, 1, 7, 300, 999998, 999999} {
			lines[fmt.Sprint("w ", core, " ", addr, " ", value)] = stores(addr, value)
		}
	}
	return lines
}

func TestOpsAreTheLastOnesOfTheirCore(t *testing.T) {
	for _, j := range someJobs() {
		for core := range int64(len(j.Programs)) {
			for line, o := range opLines(core) {
				want := impl.ScriptResult{Job: cloneJob(j), Said: "ok"}
				want.Job.Programs[core] = append(want.Job.Programs[core], o)
				if len(j.Programs[core]) == 8 {
					want = impl.ScriptResult{Code: impl.ErrMany}
				}
				wantStep(t, "an op", j, line, want)
			}
		}
	}
	wantNoStep(t, "no Addr", smallJob(), "r 0 1000000", impl.ErrText)
	wantNoStep(t, "no Addr of a store", smallJob(), "w 0 1000000 1", impl.ErrText)
	wantNoStep(t, "no Value", smallJob(), "w 0 1 1000000", impl.ErrText)
}

func TestThereIsNoProgramOfTheCore(t *testing.T) {
	for _, j := range someJobs() {
		count := int64(len(j.Programs))
		for _, core := range []int64{count, count + 1, 4, 5, 8, 255, 256, 257, 65536, 999999} {
			wantNoStep(t, "no such core", j, fmt.Sprint("r ", core, " 1"), impl.ErrNone)
			wantNoStep(t, "no such core", j, fmt.Sprint("w ", core, " 1 2"), impl.ErrNone)
			wantNoStep(t, "no such core, at the bounds", j, fmt.Sprint("w ", core, " 999999 999999"), impl.ErrNone)
		}
	}
}

func TestOpsUntilTheJobHasAFault(t *testing.T) {
	for cores := 1; cores <= 4; cores++ {
		for core := range cores {
			for _, o := range []impl.Op{loads(7), stores(7, 9)} {
				line := fmt.Sprint("r ", core, " 7")
				if o.Kind == impl.KindStore {
					line = fmt.Sprint("w ", core, " 7 9")
				}
				want := emptyJob(cores)
				for size := 1; size <= 8; size++ {
					before := cloneJob(want)
					want.Programs[core] = append(want.Programs[core], o)
					wantStep(t, "one op more", before, line, impl.ScriptResult{Job: want, Said: "ok"})
					wantRun(t, "many ops", emptyJob(cores), strings.Repeat(line+"\n", size), impl.ScriptResult{Job: want, Said: strings.Repeat("ok\n", size)})
				}
				wantNoStep(t, "nine ops", want, line, impl.ErrMany)
				wantRun(t, "eleven ops", emptyJob(cores), strings.Repeat(line+"\n", 11), impl.ScriptResult{Job: want, Said: strings.Repeat("ok\n", 8) + strings.Repeat("! 2\n", 3)})
			}
		}
	}
	text := ""
	for range 8 {
		text += "r 0 1\nw 1 2 3\nr 2 3\nw 3 4 5\n"
	}
	want := impl.Job{Programs: [][]impl.Op{manyOps(8, loads(1)), manyOps(8, stores(2, 3)), manyOps(8, loads(3)), manyOps(8, stores(4, 5))}, Lines: 1}
	wantRun(t, "32 ops", emptyJob(4), text, impl.ScriptResult{Job: want, Said: strings.Repeat("ok\n", 32)})
	wantRun(t, "and four more", emptyJob(4), text+"w 0 1 1\nw 1 1 1\nw 2 1 1\nw 3 1 1\n", impl.ScriptResult{Job: want, Said: strings.Repeat("ok\n", 32) + strings.Repeat("! 2\n", 4)})
}

// Picks of nobody are no fault.
func TestPicksAreTheLastOnes(t *testing.T) {
	for _, j := range someJobs() {
		for _, pick := range []int64{0, 1, 3, 4, 5, 255, 256, 999998, 999999} {
			want := impl.ScriptResult{Job: cloneJob(j), Said: "ok"}
			want.Job.Picks = append(want.Job.Picks, pick)
			if len(j.Picks) == 100 {
				want = impl.ScriptResult{Code: impl.ErrMany}
			}
			wantStep(t, "a pick", j, fmt.Sprint("pick ", pick), want)
		}
		wantNoStep(t, "no number", j, "pick 1000000", impl.ErrText)
	}
}

func TestPicksUntilTheJobHasAFault(t *testing.T) {
	for _, pick := range []int64{0, 1, 999999} {
		j, line := smallJob(), fmt.Sprint("pick ", pick)
		j.Picks = nil
		for size := 1; size <= 100; size++ {
			got := impl.StepScript(j, line)
			j.Picks = append(j.Picks, pick)
			wantScripted(t, "one pick more", line, got, impl.ScriptResult{Job: j, Said: "ok"})
		}
		wantNoStep(t, "101 picks", j, line, impl.ErrMany)
		j.Picks = j.Picks[:95]
		want := cloneJob(j)
		want.Picks = append(want.Picks, pick, pick, pick, pick, pick)
		wantRun(t, "101 and 102 picks", j, strings.Repeat(line+"\n", 7), impl.ScriptResult{Job: want, Said: strings.Repeat("ok\n", 5) + "! 2\n! 2\n"})
		// Without the old picks there is room again.
		wantRun(t, "cores again", j, strings.Repeat(line+"\n", 7)+"cores 1\n"+line, impl.ScriptResult{Job: impl.Job{Programs: make([][]impl.Op, 1), Lines: 2, Picks: []int64{pick}}, Said: strings.Repeat("ok\n", 5) + "! 2\n! 2\nok\nok\n"})
	}
}

func TestWhatIsSaidOfProgramsWithoutOps(t *testing.T) {
	for cores := 1; cores <= 4; cores++ {
		trace := fmt.Sprint("trace ", cores, ";")
		for core := range cores {
			trace += fmt.Sprint("core ", core, ";")
		}
		file := hex.EncodeToString(summed(67, byte(cores), 69, 0, 0))
		for _, picks := range [][]int64{nil, {0}, {0, 1, 2, 3}, {-1, 9}, make([]int64, 100)} {
			for lines := int64(1); lines <= 4; lines++ {
				j := impl.Job{Programs: make([][]impl.Op, cores), Lines: lines, Picks: picks}
				wantSaid(t, "no ops", j, "log", "none")
				wantSaid(t, "no ops", j, "trace", trace)
				wantSaid(t, "no ops", j, "check", "yes")
				for block := 1; block <= 8; block++ {
					wantSaid(t, "no ops", j, fmt.Sprint("file ", block), file)
				}
			}
		}
	}
}

func TestWhatIsSaidOfOneCore(t *testing.T) {
	j := impl.Job{Programs: [][]impl.Op{{stores(31, 5), loads(31), loads(999999), stores(0, 999999)}}, Lines: 1}
	for _, picks := range [][]int64{nil, {0}, {1, 2, 3}, {0, 0, 0, 0, 0}, {-1, 1 << 32}} {
		j.Picks = picks
		wantSaid(t, "one core", j, "log", "0:w_0x1f_5 0:r_0x1f_5 0:r_0xf423f_0 0:w_0x0_999999")
		wantSaid(t, "one core", j, "trace", "trace 1;core 0;w 0x1f 5;r 0x1f 5;r 0xf423f 0;w 0x0 999999;")
		wantSaid(t, "one core", j, "check", "yes 0 0 0 0")
	}
	one := impl.Job{Programs: [][]impl.Op{{stores(3, 5)}}, Lines: 4}
	file := summed(slices.Concat([]byte{67, 1}, summed(66, 0, 2, 13, 5), []byte{69, 1, 1})...)
	for block := 1; block <= 8; block++ {
		wantSaid(t, "one core", one, fmt.Sprint("file ", block), hex.EncodeToString(file))
	}
	wantSaid(t, "one core", one, "log", "0:w_0x3_5")
	wantSaid(t, "one core", one, "check", "yes 0")
}

func TestWhatIsSaidOfFourCores(t *testing.T) {
	j := impl.Job{Programs: [][]impl.Op{{loads(1)}, {stores(1, 7)}, nil, {loads(1), stores(2, 0)}}, Lines: 2}
	wantSaid(t, "in order", j, "log", "0:r_0x1_0 1:w_0x1_7 3:r_0x1_7 3:w_0x2_0")
	wantSaid(t, "in order", j, "trace", "trace 4;core 0;r 0x1 0;core 1;w 0x1 7;core 2;core 3;r 0x1 7;w 0x2 0;")
	wantSaid(t, "in order", j, "check", "yes 0 1 3 3")
	j.Picks = []int64{3, 2, 1, 2, 9, 3}
	wantSaid(t, "as picked", j, "log", "3:r_0x1_0 1:w_0x1_7 3:w_0x2_0 0:r_0x1_7")
	wantSaid(t, "as picked", j, "trace", "trace 4;core 0;r 0x1 7;core 1;w 0x1 7;core 2;core 3;r 0x1 0;w 0x2 0;")
	wantSaid(t, "as picked", j, "check", "yes 3 1 0 3")
	file := func(block int) string {
		return hex.EncodeToString(fileByHand(traceOf(eventsOf(load(1, 7)), eventsOf(store(1, 7)), nil, eventsOf(load(1, 0), store(2, 0))), block))
	}
	wantSaid(t, "as picked", j, "file 1", file(1))
	wantSaid(t, "as picked", j, "file 2", file(8))
	wantSaid(t, "as picked", j, "file 8", file(8))
	if file(1) == file(8) {
		t.Error("the file is the same in blocks of 1 and of 8")
	}
}

func TestPicksOfNobodyArePassedOver(t *testing.T) {
	for _, j := range someJobs() {
		with := cloneJob(j)
		with.Picks = nil
		without := cloneJob(with)
		for i, pick := range j.Picks[:min(len(j.Picks), 40)] {
			nobody := []int64{-1, 4, 999999, math.MinInt64, math.MaxInt64, 1 << 32}[i%6]
			with.Picks = append(with.Picks, nobody, pick)
			without.Picks = append(without.Picks, pick)
		}
		for _, line := range []string{"log", "trace", "file 3", "check"} {
			wantSaid(t, "with picks of nobody", with, line, impl.StepScript(without, line).Said)
		}
	}
	text := "pick 7\nw 0 1 5\nr 1 1\npick 999999\npick 1\npick 2\nlog\npick 1\nlog\n"
	want := impl.Job{Programs: [][]impl.Op{{stores(1, 5)}, {loads(1)}}, Lines: 1, Picks: []int64{7, 999999, 1, 2, 1}}
	wantRun(t, "picks of nobody", emptyJob(2), text, impl.ScriptResult{Job: want, Said: strings.Repeat("ok\n", 6) + "1:r_0x1_0 0:w_0x1_5\nok\n1:r_0x1_0 0:w_0x1_5\n"})
}

// The block is the one thing that can be wrong in what is asked of a job.
func TestWhatIsAskedTellsItsCode(t *testing.T) {
	for _, j := range someJobs() {
		for _, block := range []int64{0, 9, 10, 16, 255, 256, 257, 264, 65537, 999999} {
			wantNoStep(t, "no such block", j, fmt.Sprint("file ", block), impl.ErrRange)
		}
		for _, block := range []string{"1000000", "-1", "01", "x"} {
			wantNoStep(t, "no number", j, "file "+block, impl.ErrText)
		}
		for block := 1; block <= 8; block++ {
			line := fmt.Sprint("file ", block)
			wantStep(t, "a block", j, line, steppedByHand(j, line))
		}
	}
}

// eventSaid is the event of the words that are said of a step, or of a line of
// a trace.
func eventSaid(t *testing.T, kind string, addr string, value string) impl.Event {
	t.Helper()
	a, errAddr := strconv.ParseInt(strings.TrimPrefix(addr, "0x"), 16, 64)
	v, errValue := strconv.ParseInt(value, 10, 64)
	if errAddr != nil || errValue != nil || kind != "r" && kind != "w" {
		t.Fatalf("no event is %q, %q, %q", kind, addr, value)
	}
	return impl.Event{Kind: int64(strings.Index("rw", kind)), Addr: a, Value: v}
}

// checkSaid: what is said of a job is what Simulate and RunAll tell of it, read
// back from the words.
func checkSaid(t *testing.T, j impl.Job) {
	t.Helper()
	done := impl.Simulate(j.Programs, j.Lines, j.Picks)
	all := impl.RunAll(j.Programs, j.Lines, j.Picks, 8)
	cores := impl.SplitLog(done.Log, int64(len(j.Programs))).Cores
	var log []impl.Step
	if said := impl.StepScript(j, "log").Said; said != "none" {
		for _, word := range strings.Split(said, " ") {
			core, event, _ := strings.Cut(word, ":")
			parts := strings.Split(event, "_")
			log = append(log, impl.Step{Core: numberByHand(core).Value, Event: eventSaid(t, parts[0], parts[1], parts[2])})
		}
	}
	if !slices.Equal(log, done.Log) {
		t.Fatalf("the log of %+v is said to be %v, not %v", j, log, done.Log)
	}
	wantTold(t, "a trace that is said", strings.ReplaceAll(impl.StepScript(j, "trace").Said, ";", "\n"), cores)
	for block := int64(1); block <= 8; block++ {
		file, err := hex.DecodeString(impl.StepScript(j, fmt.Sprint("file ", block)).Said)
		if err != nil || !bytes.Equal(file, impl.RunAll(j.Programs, j.Lines, j.Picks, block).File) {
			t.Fatalf("the file of %+v is said to be %v, %v", j, file, err)
		}
		wantTrace(t, "a file that is said", file, cores)
	}
	words := strings.Split(impl.StepScript(j, "check").Said, " ")
	var row []int64
	for _, word := range words[1:] {
		row = append(row, numberByHand(word).Value)
	}
	if words[0] != "yes" || !slices.Equal(row, all.Witness) || !impl.IsWitness(cores, all.Orders, row) {
		t.Fatalf("of %+v %q is said, and the verdict is %+v", j, words, all)
	}
}

func TestWhatIsSaidIsWhatIsSo(t *testing.T) {
	for _, j := range someJobs() {
		checkSaid(t, j)
		for _, line := range []string{"log", "trace", "check", "file 1", "file 2", "file 3", "file 8"} {
			wantStep(t, "what is asked turns nothing", j, line, impl.ScriptResult{Job: j, Said: steppedByHand(j, line).Said})
		}
	}
	for seed := range int64(200) {
		checkSaid(t, anyJob(seed+1000))
	}
}

// More lines of a cache turn nothing that is said.
func TestLinesTurnNothingThatIsSaid(t *testing.T) {
	for seed := range int64(40) {
		j := anyJob(seed)
		var said []string
		for lines := range 4 {
			said = append(said, impl.RunScript(j, fmt.Sprint("lines ", lines+1, "\nlog\ntrace\nfile 3\ncheck\n")).Said)
		}
		if len(slices.Compact(slices.Clone(said))) != 1 {
			t.Fatalf("of %+v with other lines is said %q", j, said)
		}
	}
}

func TestScriptsOfTheDocument(t *testing.T) {
	for _, c := range []struct {
		name string
		text string
		said string
		want impl.Job
	}{
		{"no bytes", "", "", emptyJob(1)},
		{"a line feed", "\n", "", emptyJob(1)},
		{"some line feeds", "\n\n\n", "", emptyJob(1)},
		{"a blank", " ", "", emptyJob(1)},
		{"lines of blanks", "  \n \n   ", "", emptyJob(1)},
		{"one line", "log", "none\n", emptyJob(1)},
		{"one line with its line feed", "log\n", "none\n", emptyJob(1)},
		{"one line ahead of an empty one", "log\n\n", "none\n", emptyJob(1)},
		{"one line behind an empty one", "\nlog", "none\n", emptyJob(1)},
		{"two lines", "log\nlog", "none\nnone\n", emptyJob(1)},
		{"two lines with their line feeds", "log\nlog\n", "none\nnone\n", emptyJob(1)},
		{"an empty line between", "log\n\nlog\n", "none\nnone\n", emptyJob(1)},
		{"empty lines between", "\n\nlog\n\n\n \nlog\n\n", "none\nnone\n", emptyJob(1)},
		{"a line that turns the job", "lines 3", "ok\n", impl.Job{Programs: make([][]impl.Op, 1), Lines: 3}},
		{"a line that tells a code", "foo", "! 5\n", emptyJob(1)},
		{"with its line feed", "foo\n", "! 5\n", emptyJob(1)},
		{"a carriage return", "log\r\nlog\r", "! 5\n! 5\n", emptyJob(1)},
		{"a carriage return alone", "log\rlog", "! 5\n", emptyJob(1)},
		{"a tab", "\t\nlog\t\n\tlog\n", "! 5\n! 5\n! 5\n", emptyJob(1)},
		{"other line ends", "log\vlog\flog\u0085log\u2028log\n", "! 5\n", emptyJob(1)},
		{"each code", "r 1 1\ncores 0\nx\nr 0 1\n" + strings.Repeat("r 0 1\n", 8) + "file 9", "! 4\n! 3\n! 5\n" + strings.Repeat("ok\n", 8) + "! 2\n! 3\n", impl.Job{Programs: [][]impl.Op{manyOps(8, loads(1))}, Lines: 1}},
		{"codes among others", "w 0 1 5\nw 1 1 6\nfile 0\nr 0 1\nlines 0\nlog\n", "ok\n! 4\n! 3\nok\n! 3\n0:w_0x1_5 0:r_0x1_5\n", impl.Job{Programs: [][]impl.Op{{stores(1, 5), loads(1)}}, Lines: 1}},
		{"cores, and all else", "cores 2\nlines 4\nw 0 31 5\nr 1 31\npick 1\ncheck\nlog\ntrace\n", "ok\nok\nok\nok\nok\nyes 1 0\n1:r_0x1f_0 0:w_0x1f_5\ntrace 2;core 0;w 0x1f 5;core 1;r 0x1f 0;\n", impl.Job{Programs: [][]impl.Op{{stores(31, 5)}, {loads(31)}}, Lines: 4, Picks: []int64{1}}},
		{"each line by itself", "log\nr 0 1\nlog\nw 0 1 2\nlog\ncores 1\nlog\n", "none\nok\n0:r_0x1_0\nok\n0:r_0x1_0 0:w_0x1_2\nok\nnone\n", emptyJob(1)},
	} {
		wantRun(t, c.name, emptyJob(1), c.text, impl.ScriptResult{Job: c.want, Said: c.said})
	}
}

func TestAScriptWithoutLinesTurnsNothing(t *testing.T) {
	for _, j := range someJobs() {
		for _, text := range []string{"", "\n", " ", "\n\n", " \n  \n", strings.Repeat("\n", 60), strings.Repeat(" ", 3000)} {
			wantRun(t, "no words", j, text, impl.ScriptResult{Job: j})
		}
	}
}

func TestAScriptHas3000BytesAtMost(t *testing.T) {
	for _, j := range []impl.Job{smallJob(), emptyJob(4)} {
		log := steppedByHand(j, "log").Said + "\n"
		for size := 2996; size <= 3004; size++ {
			fill := strings.Repeat(" ", size-8)
			for _, text := range []string{"log\n" + fill + "log\n", fill + "log\nlog\n", "log\nlog\n" + fill, fill[:1000] + "log\n" + fill[1000:] + "log\n"} {
				want := impl.ScriptResult{Job: j, Said: log + log}
				if size > 3000 {
					want = impl.ScriptResult{Code: impl.ErrMany}
				}
				wantRun(t, fmt.Sprint(size, " bytes"), j, text, want)
			}
			want := impl.ScriptResult{Job: j, Said: "! 5\n"}
			if size > 3000 {
				want = impl.ScriptResult{Code: impl.ErrMany}
			}
			wantRun(t, fmt.Sprint("one word of ", size, " bytes"), j, strings.Repeat("x", size), want)
		}
		wantRun(t, "many bytes", j, strings.Repeat("cores 1 ", 100000), impl.ScriptResult{Code: impl.ErrMany})
		wantRun(t, "many lines", j, strings.Repeat("log\n", 100000), impl.ScriptResult{Code: impl.ErrMany})
		wantRun(t, "bytes are counted", j, strings.Repeat("ä", 1501), impl.ScriptResult{Code: impl.ErrMany})
	}
}

// What is behind the last line feed is a line, if it is not empty.
func TestAScriptHas60LinesAtMost(t *testing.T) {
	for _, j := range []impl.Job{smallJob(), emptyJob(1)} {
		for _, line := range []string{"", " ", "log", "foo", "lines 4", "cores 2"} {
			for count := 57; count <= 63; count++ {
				text := strings.Repeat(line+"\n", count)
				check := func(name string, text string, lines int) {
					t.Helper()
					want := scriptByHand(j, text)
					if len(linesByHand(text)) != lines || (want.Code == impl.OK) != (lines <= 60) {
						t.Fatalf("%s: by hand there are %d lines, not %d, or the code is %d", name, len(linesByHand(text)), lines, want.Code)
					}
					if lines > 60 {
						want = impl.ScriptResult{Code: impl.ErrMany}
					}
					wantRun(t, fmt.Sprint(lines, " lines, ", name), j, text, want)
				}
				check("each with its line feed", text, count)
				check("and a word", text+"log", count+1)
				check("and a blank", text+" ", count+1)
				check("and an empty line", text+"\n", count+1)
				check("behind an empty line", "\n"+text, count+1)
				if line != "" {
					check("the last one without a line feed", text[:len(text)-1], count)
				}
			}
		}
	}
	if got := impl.RunScript(emptyJob(1), strings.Repeat("log\n", 60)); got.Said != strings.Repeat("none\n", 60) {
		t.Errorf("of 60 lines is said %q", got.Said)
	}
}

// manyLines are lines of which many turn a job of up to four cores, and some
// tell codes.
func manyLines() []string {
	lines := []string{"", " ", "cores 3", "cores 5", "cores 0", "lines 2", "lines 3", "lines 0", "lines 5", "pick 0", "pick 1", "pick 3", "pick 9", "pick x", "log", "trace", "check", "file 1", "file 3", "file 8", "file 0", "file 9", "log 1", "foo", "r", "w 0 1", "r 9 9", "w 4 1 1", "r 0 1000000", "  check  ", "\tlog", "log\r"}
	for core := range int64(3) {
		for addr := range int64(2) {
			lines = append(lines, fmt.Sprint("r ", core, " ", addr), fmt.Sprint("w ", core, " ", addr, " ", 5+core), fmt.Sprint("w ", core, " ", addr, " 0"), fmt.Sprint(" r  ", core, " ", addr))
		}
	}
	return lines
}

func anyScript(size int, seed int64) string {
	choice := manyLines()
	text := ""
	for _, n := range numbersOf(size, int64(len(choice)), seed) {
		text += choice[n] + "\n"
	}
	if seed%3 == 0 {
		return strings.TrimSuffix(text, "\n")
	}
	return text
}

// checkLineByLine: a script is what its lines, one by one, say.
func checkLineByLine(t *testing.T, j impl.Job, text string) {
	t.Helper()
	want := impl.ScriptResult{Job: cloneJob(j)}
	for _, line := range linesByHand(text) {
		step := impl.StepScript(want.Job, line)
		switch {
		case step.Code != impl.OK:
			want.Said += "! " + strconv.FormatInt(step.Code, 10) + "\n"
			continue
		case step.Said != "":
			want.Said += step.Said + "\n"
		}
		want.Job = step.Job
	}
	wantRun(t, "line by line", j, text, want)
	if !impl.SameJobs(impl.RunScript(j, text).Job, want.Job) {
		t.Fatalf("the job of the script %q is not the same as that of its lines", text)
	}
}

func TestAScriptIsDoneLineByLine(t *testing.T) {
	jobs := someJobs()
	said := map[string]bool{}
	for seed := range int64(600) {
		j, text := jobs[seed%int64(len(jobs))], anyScript(int(seed%61), seed)
		checkLineByLine(t, j, text)
		for _, line := range strings.Split(impl.RunScript(j, text).Said, "\n") {
			said[line[:min(len(line), 3)]] = true
		}
	}
	for _, start := range []string{"ok", "! 2", "! 3", "! 4", "! 5", "yes", "0:r", "0:w", "tra", "430", "non"} {
		if !said[start] {
			t.Errorf("no script says %q", start)
		}
	}
	// Each line ahead of each other one, and behind it.
	for _, first := range manyLines() {
		for _, second := range manyLines() {
			checkLineByLine(t, smallJob(), first+"\n"+second+"\nlog\ntrace\nfile 2\ncheck")
		}
	}
}

// A script that is cut in two, at a line feed, says what both halves say.
func TestAScriptGoesOnWhereAnotherOneEnds(t *testing.T) {
	for seed := range int64(100) {
		text := anyScript(30, seed)
		whole := impl.RunScript(smallJob(), text)
		lines := strings.SplitAfter(text, "\n")
		for at := range len(lines) {
			first := impl.RunScript(smallJob(), strings.Join(lines[:at], ""))
			second := impl.RunScript(first.Job, strings.Join(lines[at:], ""))
			if first.Said+second.Said != whole.Said || !alikeJobs(second.Job, whole.Job) || whole.Code != impl.OK {
				t.Fatalf("the script %q says %+v, and cut at line %d %+v, %+v", text, whole, at, first, second)
			}
		}
	}
}

// linesForAll are lines of all kinds, with codes and without.
func linesForAll() []string {
	return append(append(goodLines(), manyLines()...), "\n", "log\n", strings.Repeat(" ", 3001), strings.Repeat("w 0 1 1 ", 300))
}

// jobWithRoom is the job with room behind each of its lists, and these lists
// with what stands in that room.
func jobWithRoom(j impl.Job) (impl.Job, [][]impl.Op, [][]impl.Op, []int64) {
	given, whole := programsWithRoom(j.Programs)
	picks := append(slices.Clone(j.Picks), 3, 2, 1, 0)
	return impl.Job{Programs: given[:len(j.Programs)], Lines: j.Lines, Picks: picks[:len(j.Picks)]}, given, whole, picks
}

func TestNoJobIsChanged(t *testing.T) {
	jobs := someJobs()[:14]
	for _, c := range faultyJobs() {
		if len(c.job.Programs) < 10 && len(c.job.Picks) < 200 {
			jobs = append(jobs, c.job)
		}
	}
	for _, j := range jobs {
		given, heads, whole, picks := jobWithRoom(j)
		headsBefore, wholeBefore, picksBefore := slices.Clone(heads), clonePrograms(whole), slices.Clone(picks)
		check := func(name string) {
			t.Helper()
			if !samePrograms(whole, wholeBefore) || !samePrograms(heads, headsBefore) || !slices.Equal(picks, picksBefore) {
				t.Fatalf("%s: the job %+v is changed", name, j)
			}
		}
		impl.JobFault(given)
		impl.SameJobs(given, j)
		impl.SameJobs(given, given)
		check("asked of it")
		for _, line := range linesForAll() {
			impl.StepScript(given, line)
			check("the line " + shortOf(line))
		}
		for seed := range int64(8) {
			impl.RunScript(given, anyScript(40, seed))
			check("a script")
		}
		impl.RunScript(given, "cores 1\nw 0 9 9\ncores 4\nw 3 9 9\npick 9\n")
		impl.RunScript(given, "")
		check("a script")
	}
}

func TestNoBytesAreChangedByTheirText(t *testing.T) {
	for _, size := range []int{0, 1, 2, 100, 2000, 2001} {
		whole := someBytes(size + 50)
		before := bytes.Clone(whole)
		told := impl.HexText(whole[:size]).Text
		want := strings.Clone(told)
		if !bytes.Equal(whole, before) {
			t.Fatalf("%d bytes are changed", size)
		}
		spoilBytes(whole)
		if told != want {
			t.Fatalf("the text of %d bytes turns with them", size)
		}
	}
}

func spoilOps(list []impl.Op) {
	list = list[:cap(list)]
	for i := range list {
		list[i] = impl.Op{Kind: 9, Addr: 9, Value: 9}
	}
}

func spoilJob(j impl.Job) {
	for _, ops := range j.Programs {
		spoilOps(ops)
	}
	clear(j.Programs[:cap(j.Programs)])
	spoilNumbers(j.Picks)
}

// checkJobApart spoils one list after the other of an answer: all others stay
// as they are, and so do the job that was given, and another answer to the
// same.
func checkJobApart(t *testing.T, name string, j impl.Job, answer func(j impl.Job) impl.Job) {
	t.Helper()
	given := cloneJob(j)
	want, other := cloneJob(answer(given)), answer(given)
	for core := range want.Programs {
		got := answer(given)
		spoilOps(got.Programs[core])
		_ = append(got.Programs[core], manyOps(9, impl.Op{Kind: 8})...)
		got.Programs[core] = want.Programs[core]
		if !alikeJobs(got, want) {
			t.Fatalf("%s: program %d of %+v shares memory with another list", name, core, want)
		}
	}
	got := answer(given)
	spoilNumbers(got.Picks)
	_ = append(got.Picks, 9, 9, 9)
	got.Picks = want.Picks
	if !alikeJobs(got, want) {
		t.Fatalf("%s: the picks of %+v share memory with another list", name, want)
	}
	spoilJob(answer(given))
	if !alikeJobs(other, want) || !alikeJobs(given, j) {
		t.Fatalf("%s: the answer %+v shares memory with the job, or with another answer", name, want)
	}
	spoilJob(given)
	if !alikeJobs(other, want) {
		t.Fatalf("%s: the answer %+v turns with the job", name, want)
	}
}

func TestJobsThatAreAnsweredAreNewMemory(t *testing.T) {
	for i, j := range someJobs()[:30] {
		for _, line := range linesForAll() {
			checkJobApart(t, "StepScript of "+shortOf(line), j, func(j impl.Job) impl.Job { return impl.StepScript(j, line).Job })
		}
		texts := []string{"", "\n", "log", "foo\nfoo", "cores 4\nw 0 1 1\nw 3 1 1\ncores 2\nr 1 1\npick 1", "cores 1\ncores 4\nr 2 2\nlines 4\nfoo", anyScript(20, int64(i)), anyScript(60, int64(i))}
		for _, text := range texts {
			checkJobApart(t, "RunScript of "+shortOf(text), j, func(j impl.Job) impl.Job { return impl.RunScript(j, text).Job })
		}
	}
}

// Programs that share memory with one another are gone on with as any others,
// and the one that has an op more is alone in that.
func TestProgramsOfAJobMayShareMemory(t *testing.T) {
	ops := []impl.Op{stores(1, 5), loads(2), loads(1), stores(2, 0), stores(1, 7), loads(2), loads(1)}
	picks := []int64{2, 1, 0, 1, 3}
	before := slices.Clone(ops)
	for _, programs := range [][][]impl.Op{{ops, ops}, {ops[:3], ops[3:6], ops[:3], ops[2:6]}, {ops[:0], ops[:1], ops[:2]}} {
		j := impl.Job{Programs: programs, Lines: 2, Picks: picks}
		for _, line := range append(linesForAll(), "w 0 999 999", "w 1 999 999") {
			wantScripted(t, "programs that share memory", line, impl.StepScript(j, line), steppedByHand(j, line))
			checkJobApart(t, "programs that share memory", j, func(impl.Job) impl.Job { return impl.StepScript(j, line).Job })
		}
		checkLineByLine(t, j, "w 0 9 9\nr 0 9\nw 1 8 8\nr 1 9\nlog\ncheck\npick 1\ntrace")
		if !slices.Equal(ops, before) || !slices.Equal(picks, []int64{2, 1, 0, 1, 3}) {
			t.Fatal("the ops or the picks are changed")
		}
	}
}

func TestWordsAreNewMemory(t *testing.T) {
	for _, line := range []string{"", " ", "a", "a b", " a  b ", strings.Repeat("ab ", 1000)} {
		first, second := impl.WordsOf(line).Words, impl.WordsOf(line).Words
		whole := first[:cap(first)]
		for i := range whole {
			whole[i] = "spoiled"
		}
		if !slices.Equal(second, wordsByHand(line)) {
			t.Fatalf("two answers to %q share memory", shortOf(line))
		}
		wantWords(t, "asked anew", line, impl.TextsResult{Words: wordsByHand(line)})
	}
}

// scriptAnswers asks each function of the chapter.
func scriptAnswers(j impl.Job, line string, text string, data []byte) []string {
	return []string{
		fmt.Sprint(impl.JobFault(j), impl.SameJobs(j, smallJob()), impl.SameJobs(j, j)),
		fmt.Sprint(impl.WordsOf(line), impl.HexText(data)),
		fmt.Sprint(impl.StepScript(j, line)),
		fmt.Sprint(impl.RunScript(j, text)),
	}
}

// What is kept from a job, or from a line that was not done, would turn the
// answers that follow.
func TestAnswersOfAScriptHangOnTheArgumentsAlone(t *testing.T) {
	jobs, lines := someJobs(), linesForAll()
	for i, c := range faultyJobs() {
		if i%4 == 0 && len(c.job.Programs) < 10 && len(c.job.Picks) < 200 {
			jobs = append(jobs, c.job)
		}
	}
	answers := func(i int) []string {
		return scriptAnswers(jobs[i%len(jobs)], lines[i%len(lines)], anyScript(i%63, int64(i)), someBytes(i*19))
	}
	var before [][]string
	for i := range 150 {
		before = append(before, answers(i))
	}
	for range 3 {
		for i := len(before) - 1; i >= 0; i-- {
			if after := answers(i); !slices.Equal(after, before[i]) {
				t.Fatalf("the answers about job %d are %v, and were %v", i, after, before[i])
			}
		}
	}
}
