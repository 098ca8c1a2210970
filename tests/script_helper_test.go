package tests

import (
	"regexp"
	"slices"
	"strconv"
	"strings"
	"testing"

	"loop.example/s01733/impl"
)

// scriptOf is a text of lines, each with its newline.
func scriptOf(lines ...string) string {
	return strings.Join(lines, "\n") + "\n"
}

func sameScript(a impl.Script, b impl.Script) bool {
	return a.Quota == b.Quota && sameOps(a.Ops, b.Ops)
}

func copyScript(s impl.Script) impl.Script {
	s.Ops = copyOps(s.Ops)
	return s
}

// scribbleScript writes another mark into each list of a script, and gives
// whether each still has its own in the end.
func scribbleScript(s impl.Script) bool {
	for i, op := range s.Ops {
		for j := range op.Batch[:cap(op.Batch)] {
			op.Batch[:cap(op.Batch)][j].Key = strconv.Itoa(i)
		}
		for j := range op.Keep[:cap(op.Keep)] {
			op.Keep[:cap(op.Keep)][j] = i
		}
	}
	for i, op := range s.Ops {
		foreign := func(e impl.Entry) bool { return e.Key != strconv.Itoa(i) }
		if slices.ContainsFunc(op.Batch, foreign) || slices.ContainsFunc(op.Keep, func(n int) bool { return n != i }) {
			return false
		}
	}
	for i := range s.Ops[:cap(s.Ops)] {
		s.Ops[:cap(s.Ops)][i] = impl.Op{Kind: 77}
	}
	return true
}

// parse looks at what holds for every text: the same call answers the same,
// whatever was written into the answer before, and no two lists of an answer
// share memory.
func parse(t *testing.T, text string) (impl.Script, int) {
	t.Helper()
	first, code := impl.ParseScript(text)
	kept := copyScript(first)
	again, codeAgain := impl.ParseScript(text)
	if !scribbleScript(again) {
		t.Errorf("%s: two lists of the script share memory", brief(text))
	}
	if codeAgain != code || !sameScript(first, kept) {
		t.Errorf("%s: the script changes with another one", brief(text))
	}
	third, codeThird := impl.ParseScript(text)
	if codeThird != code || !sameScript(third, kept) {
		t.Errorf("%s: the same call answers otherwise", brief(text))
	}
	return kept, code
}

func expectScript(t *testing.T, what string, text string, quota int, list ...impl.Op) {
	t.Helper()
	got, code := parse(t, text)
	if code != 0 || !sameScript(got, impl.Script{Quota: quota, Ops: list}) {
		t.Errorf("%s: %s gave code %d, quota %d and %d operations %v", what, brief(text), code, got.Quota, len(got.Ops), got.Ops[:min(5, len(got.Ops))])
	}
}

func expectBadScript(t *testing.T, what string, text string, want int) {
	t.Helper()
	got, code := parse(t, text)
	if code != want || !sameScript(got, impl.Script{}) {
		t.Errorf("%s: %s gave code %d, quota %d and %d operations, want code %d", what, brief(text), code, got.Quota, len(got.Ops), want)
	}
	if shown := impl.Run(text); shown != "bad "+strconv.Itoa(want)+"\n" {
		t.Errorf("%s: Run of %s gave %s, want bad %d", what, brief(text), brief(shown), want)
	}
}

// The lines as chapter 7 lists them: W is a word, N a number.
var lineForms = map[int]string{
	impl.OpOpen: "open", impl.OpPut: "put W W", impl.OpDel: "del W", impl.OpSync: "sync", impl.OpGet: "get W", impl.OpScan: "scan W W",
	impl.OpFlush: "flush", impl.OpCompact: "compact N", impl.OpClose: "close", impl.OpCheck: "check", impl.OpRepair: "repair", impl.OpDump: "dump", impl.OpList: "list",
	impl.OpBatch: "batch W( W)*", impl.OpCrash: "crash( N)*", impl.OpFuel: "fuel N", impl.OpPoke: "poke W N W",
}

var quotaForm = formOf("quota N")

var lineExpressions = func() map[int]*regexp.Regexp {
	all := map[int]*regexp.Regexp{}
	for kind, form := range lineForms {
		all[kind] = formOf(form)
	}
	return all
}()

func formOf(form string) *regexp.Regexp {
	form = strings.ReplaceAll(form, "W", `[!-~]+`)
	form = strings.ReplaceAll(form, "N", `(-1|0|[1-9][0-9]{0,7})`)
	return regexp.MustCompile(`\A` + form + `\z`)
}

func plainWord(part string) string {
	if part == "_" {
		return ""
	}
	return part
}

func plainNumber(part string) int {
	n, err := strconv.Atoi(part)
	if err != nil {
		panic("no number: " + part)
	}
	return n
}

func plainItem(part string) impl.Entry {
	at := strings.Index(part, "=")
	if at < 0 {
		return impl.Entry{Key: part}
	}
	return impl.Entry{Key: part[:at], Kind: impl.KindPut, Val: part[at+1:]}
}

// plainOp is for a line that has the form of the kind.
func plainOp(kind int, line string) (impl.Op, bool) {
	parts := strings.Split(line, " ")[1:]
	op := impl.Op{Kind: kind}
	switch kind {
	case impl.OpPut, impl.OpScan:
		op.Key, op.Val = plainWord(parts[0]), plainWord(parts[1])
	case impl.OpDel, impl.OpGet:
		op.Key = plainWord(parts[0])
	case impl.OpCompact, impl.OpFuel:
		op.N = plainNumber(parts[0])
	case impl.OpPoke:
		op.Key, op.N, op.Val = plainWord(parts[0]), plainNumber(parts[1]), plainWord(parts[2])
	case impl.OpCrash:
		for _, part := range parts {
			op.Keep = append(op.Keep, plainNumber(part))
		}
	case impl.OpBatch:
		for _, part := range parts {
			op.Batch = append(op.Batch, plainItem(part))
		}
		return op, !slices.Contains(parts, "_")
	}
	return op, true
}

func plainLine(line string) (impl.Op, bool) {
	for kind, expression := range lineExpressions {
		if expression.MatchString(line) {
			return plainOp(kind, line)
		}
	}
	return impl.Op{}, false
}

// plainParse is ParseScript told once more.
func plainParse(text string) (impl.Script, int) {
	if len(text) > 60000 {
		return impl.Script{}, 1
	}
	lines := []string{}
	for rest := text; rest != ""; {
		line, behind, _ := strings.Cut(rest, "\n")
		lines = append(lines, line)
		rest = behind
	}
	if len(lines) == 0 || !quotaForm.MatchString(lines[0]) {
		return impl.Script{}, 2
	}
	s := impl.Script{Quota: plainNumber(strings.Fields(lines[0])[1])}
	if s.Quota < 0 || s.Quota > 1048576 {
		return impl.Script{}, 2
	}
	for number := 1; number < len(lines); number++ {
		op, ok := plainLine(lines[number])
		if !ok {
			return impl.Script{}, 2 + number
		}
		if number > 2000 {
			return impl.Script{}, 2003
		}
		s.Ops = append(s.Ops, op)
	}
	return s, 0
}

// shown is what Run tells of an outcome.
func shown(o impl.Outcome) string {
	lines := []string{}
	for _, a := range o.Answers {
		lines = append(lines, tell(a))
	}
	end := "mode " + strconv.Itoa(o.Mode) + " files " + strconv.Itoa(len(o.Fs.Files)) + " bytes " + strconv.Itoa(totalOf(o.Fs))
	return scriptOf(append(lines, end)...)
}

// wordOf is the word that stands for a text.
func wordOf(text string) string {
	if text == "" {
		return "_"
	}
	return text
}

func itemOf(e impl.Entry) string {
	if e.Kind == impl.KindPut {
		return e.Key + "=" + e.Val
	}
	return e.Key
}

// lineOf is the line of an operation. What a line cannot say is left out of it.
func lineOf(op impl.Op) string {
	parts := []string{strings.Trim(lineForms[op.Kind], " WN()*")}
	switch op.Kind {
	case impl.OpPut, impl.OpScan:
		parts = append(parts, wordOf(op.Key), wordOf(op.Val))
	case impl.OpDel, impl.OpGet:
		parts = append(parts, wordOf(op.Key))
	case impl.OpCompact, impl.OpFuel:
		parts = append(parts, strconv.Itoa(op.N))
	case impl.OpPoke:
		parts = append(parts, wordOf(op.Key), strconv.Itoa(op.N), wordOf(op.Val))
	case impl.OpCrash:
		for _, n := range op.Keep {
			parts = append(parts, strconv.Itoa(n))
		}
	case impl.OpBatch:
		for _, e := range op.Batch {
			parts = append(parts, itemOf(e))
		}
	}
	return strings.Join(parts, " ")
}

// written is whether a line says all of an operation.
func written(op impl.Op) bool {
	back, ok := plainLine(lineOf(op))
	return ok && sameOps(ops(back), ops(op))
}

func scriptText(quota int, list ...impl.Op) string {
	lines := []string{"quota " + strconv.Itoa(quota)}
	for _, op := range list {
		lines = append(lines, lineOf(op))
	}
	return scriptOf(lines...)
}

// expectRun holds Run of a script of the operations against Exec of them.
func expectRun(t *testing.T, what string, quota int, list ...impl.Op) impl.Outcome {
	t.Helper()
	for _, op := range list {
		if !written(op) {
			t.Fatalf("%s: the test cannot write kind %d as a line: %s", what, op.Kind, brief(lineOf(op)))
		}
	}
	text := scriptText(quota, list...)
	expectScript(t, what, text, quota, list...)
	o := exec(t, dir(quota, -1), list...)
	if got := impl.Run(text); got != shown(o) {
		t.Errorf("%s: Run shows\n%s\nwant\n%s", what, got, shown(o))
	}
	return o
}

func expectShown(t *testing.T, what string, text string, want ...string) {
	t.Helper()
	for range 2 {
		got := strings.Split(impl.Run(text), "\n")
		if slices.Equal(got, append(slices.Clone(want), "")) {
			continue
		}
		at := 0
		for at < min(len(got), len(want)) && got[at] == want[at] {
			at++
		}
		t.Errorf("%s: Run shows %d lines, the first that differs is %d: %.200q, want %d lines and %.200q", what, len(got)-1, at, got[at:min(len(got), at+1)], len(want), want[at:min(len(want), at+1)])
	}
}
