package pipe

import (
	"math/big"
	"math/rand"
	"regexp"
	"slices"
	"strings"
	"testing"

	"stole/api"
	"stole/words"
)

// A second reading of chapter 15, by patterns, that Parse and May are held against: a sign stands for each word.
var (
	asked = regexp.MustCompile(`^(fa*|a)(pfa*)*$`)
	many  = regexp.MustCompile(`a{9}|(p.*){8}`)
	isFn  = regexp.MustCompile(`^(len|index|eq|lt|not|and|or|cat)$`)
	isKey = regexp.MustCompile(`^(true|false|null)$`)
	aName = regexp.MustCompile(`^[A-Za-z_][A-Za-z_0-9]{0,31}$`)
)

// sign tells what a word is: f a function, a an argument, p a WordPipe, x none of them.
func sign(w api.Word) string {
	isWay := len(w.Path) <= api.MaxPath && !slices.ContainsFunc(w.Path, func(s string) bool { return !aName.MatchString(s) })
	noText, noPath, noInt := w.Text == "", len(w.Path) == 0, w.Int == 0
	switch {
	case w.Kind == api.WordPipe && noText && noPath && noInt:
		return "p"
	case w.Kind == api.WordName && isFn.MatchString(w.Text) && noPath && noInt:
		return "f"
	case w.Kind == api.WordName && isKey.MatchString(w.Text) && noPath && noInt,
		w.Kind == api.WordField && noText && isWay && noInt,
		w.Kind == api.WordVar && aName.MatchString(w.Text) && isWay && noInt,
		w.Kind == api.WordInt && noText && noPath && new(big.Int).Abs(big.NewInt(int64(w.Int))).Cmp(big.NewInt(api.MaxInt)) <= 0,
		w.Kind == api.WordText && len(w.Text) <= api.MaxText && noPath && noInt:
		return "a"
	}
	return "x"
}

// wanted gives the error that Parse is to answer.
func wanted(ws []api.Word) api.Errno {
	var signs strings.Builder
	for _, w := range ws {
		signs.WriteString(sign(w))
	}
	switch {
	case !asked.MatchString(signs.String()):
		return api.ErrPipeForm
	case many.MatchString(signs.String()):
		return api.ErrPipeMany
	}
	return api.OK
}

// asWord gives the word that an argument may have been told of.
func asWord(a api.Arg) api.Word {
	switch a.Kind {
	case api.ArgDot:
		return field(a.Path...)
	case api.ArgVar:
		return variable(a.Name, a.Path...)
	case api.ArgInt:
		return number(a.Int)
	case api.ArgText:
		return text(a.Text)
	case api.ArgBool:
		if a.Int == 1 {
			return name("true")
		}
		return name("false")
	case api.ArgNull:
		return name("null")
	}
	return api.Word{Kind: -1}
}

// asWords gives the words that commands may have been told of.
func asWords(p []api.Cmd) []api.Word {
	var out []api.Word
	for i, c := range p {
		if i > 0 {
			out = append(out, bar())
		}
		if c.Fn != "" {
			out = append(out, name(c.Fn))
		}
		for _, a := range c.Args {
			out = append(out, asWord(a))
		}
	}
	return out
}

func sameWord(v, w api.Word) bool {
	return v.Kind == w.Kind && v.Text == w.Text && v.Int == w.Int && strings.Join(v.Path, ".") == strings.Join(w.Path, ".")
}

// hold holds Parse of words against the second reading, and gives the error: what it tells must be the words again.
func hold(t *testing.T, ws []api.Word) api.Errno {
	t.Helper()
	p, e := Parse(ws)
	if want := wanted(ws); e != want {
		t.Fatalf("P15.1: Parse(%s) = %s, %d, want %d", shown(ws), shown(p), e, want)
	}
	if e != api.OK {
		if len(p) != 0 {
			t.Fatalf("R2: Parse(%s) = %s, %d", shown(ws), shown(p), e)
		}
		return e
	}
	back := asWords(p)
	for i := range max(len(ws), len(back)) {
		if i >= len(ws) || i >= len(back) || !sameWord(ws[i], back[i]) {
			t.Fatalf("P15.1: Parse(%s) = %s: word %d", shown(ws), shown(p), i)
		}
	}
	holdMay(t, p)
	return e
}

// holdMay holds May of commands against what it asks for: that Parse tells them of words.
func holdMay(t *testing.T, p []api.Cmd) bool {
	t.Helper()
	got, e := Parse(asWords(p))
	want := e == api.OK && same(got, p)
	if May(p) != want {
		t.Fatalf("P15.1: May(%s) = %v, but Parse tells %s, %d", shown(p), !want, shown(got), e)
	}
	return want
}

// TestAllShortRows: each short row of words of each kind.
func TestAllShortRows(t *testing.T) {
	var all func(ws, signs []api.Word, left int)
	all = func(ws, signs []api.Word, left int) {
		hold(t, ws)
		if left == 0 {
			return
		}
		for _, w := range signs {
			all(append(ws[:len(ws):len(ws)], w), signs, left-1)
		}
	}
	all(nil, of(name("len"), name("cat"), name("true"), name("null"), name("foo"), field(), field("a"), variable("v"), number(-1), text(""), text("|"), bar(), assign()), 4)
	all(nil, of(name("or"), field("a"), bar()), 9)
	all(times(api.MaxCmds-1, name("len"), bar()), of(name("eq"), number(1), bar()), 5)
	all(row(of(name("cat")), times(api.MaxArgs-1, field())), of(name("eq"), number(1), bar()), 5)
	all(row(of(field(), bar(), name("cat")), times(api.MaxArgs-1, field())), of(name("eq"), name("false"), bar(), name("lens")), 4)
}

var (
	fineTexts   = []string{"len", "index", "eq", "lt", "not", "and", "or", "cat", "true", "false", "null", "a", "B_9", strings.Repeat("n", api.MaxName)}
	wrongTexts  = []string{"", "Len", "1", "a.b", "é", "\xff", "foo", strings.Repeat("n", api.MaxName+1), strings.Repeat("t", api.MaxText), strings.Repeat("t", api.MaxText+1)}
	fineNumbers = []int{0, 1, -1, 2, api.MaxInt, -api.MaxInt}
	anyNumbers  = append(fineNumbers, api.MaxInt+1, -api.MaxInt-1, 1<<63-1, -1<<63)
)

func oneOf[T any](r *rand.Rand, from []T) T { return from[r.Intn(len(from))] }

// chancePath gives a random Path; of its names one of so many is wrong (none, if that is 0), and its length, too.
func chancePath(r *rand.Rand, wrong int) []string {
	var out []string
	for range r.Intn(api.MaxPath + 1) {
		out = append(out, chanceText(r, wrong))
	}
	if wrong > 0 && r.Intn(wrong) == 0 {
		out = append(out, out...)
	}
	return out
}

func chanceText(r *rand.Rand, wrong int) string {
	if wrong > 0 && r.Intn(wrong) == 0 {
		return oneOf(r, wrongTexts)
	}
	return oneOf(r, fineTexts)
}

// chanceWord gives a random word; of so many one is wrong, and of its parts, too.
func chanceWord(r *rand.Rand, wrong int) api.Word {
	s, way := chanceText(r, wrong), chancePath(r, wrong)
	w := oneOf(r, of(name(s), field(way...), variable(s, way...), number(oneOf(r, fineNumbers)), text(s), bar()))
	if wrong == 0 || r.Intn(wrong) > 0 {
		return w
	}
	switch r.Intn(4) {
	case 0:
		w.Kind = r.Intn(9) - 1
	case 1:
		w.Text = s
	case 2:
		w.Path = way
	case 3:
		w.Int = oneOf(r, anyNumbers)
	}
	return w
}

// chanceRow gives a random row of words that are commands but for one word, now and then.
func chanceRow(r *rand.Rand) []api.Word {
	var ws []api.Word
	for i := range 1 + r.Intn(api.MaxCmds+1) {
		if i > 0 {
			ws = append(ws, bar())
		}
		if i == 0 && r.Intn(2) == 0 {
			ws = append(ws, argumentOf(r))
			continue
		}
		ws = append(ws, name(oneOf(r, functions)))
		for range r.Intn(api.MaxArgs + 1 + r.Intn(50)/49) {
			ws = append(ws, argumentOf(r))
		}
	}
	if r.Intn(4) == 0 {
		ws[r.Intn(len(ws))] = chanceWord(r, 2)
	}
	return ws
}

// argumentOf gives a random word that is an argument.
func argumentOf(r *rand.Rand) api.Word {
	for {
		if w := chanceWord(r, 0); sign(w) == "a" {
			return w
		}
	}
}

func TestRowsOfChance(t *testing.T) {
	r := rand.New(rand.NewSource(15))
	seen := [2]map[api.Errno]int{{}, {}}
	for range 40000 {
		var ws []api.Word
		for range r.Intn(8) {
			ws = append(ws, chanceWord(r, 10))
		}
		seen[0][hold(t, ws)]++
		seen[1][hold(t, chanceRow(r))]++
	}
	for _, e := range []api.Errno{api.OK, api.ErrPipeForm, api.ErrPipeMany} {
		if seen[1][e] < 1000 || e != api.ErrPipeMany && seen[0][e] < 1000 {
			t.Errorf("%v", seen)
		}
	}
}

// turnOne turns one part of commands.
func turnOne(r *rand.Rand, p []api.Cmd) {
	c := &p[r.Intn(len(p))]
	w := chanceWord(r, 2)
	turns := []func(){func() { c.Fn = w.Text }, func() { c.Fn = "" }, func() { c.Args = append(c.Args, api.Arg{Kind: api.ArgNull}) }}
	if len(c.Args) > 0 {
		a := &c.Args[r.Intn(len(c.Args))]
		turns = append(turns,
			func() { c.Args = c.Args[1:] },
			func() { a.Kind = r.Intn(8) - 1 },
			func() { a.Name = w.Text },
			func() { a.Text = w.Text },
			func() { a.Path = w.Path },
			func() { a.Int = w.Int })
	}
	turns[r.Intn(len(turns))]()
}

// TestCommandsOfChance: May of what Parse tells with parts turned.
func TestCommandsOfChance(t *testing.T) {
	r := rand.New(rand.NewSource(51))
	seen := map[bool]int{}
	for range 40000 {
		p, e := Parse(chanceRow(r))
		if e != api.OK {
			continue
		}
		for range 1 + r.Intn(3) {
			turnOne(r, p)
			seen[holdMay(t, p)]++
		}
	}
	if seen[true] < 1000 || seen[false] < 1000 {
		t.Errorf("%v", seen)
	}
}

func FuzzParse(f *testing.F) {
	for _, s := range []string{"", ".", "len . | eq 1", "cat true false null \"a\"", "$a.b | not", "len | .", "1 2", "len foo"} {
		f.Add(s, 0, 0, "")
	}
	f.Fuzz(func(t *testing.T, action string, at int, n int, s string) {
		ws, e := words.Words(action)
		if e != api.OK || len(ws) == 0 {
			return
		}
		hold(t, ws)
		w := &ws[max(at, -(at+1))%len(ws)]
		w.Int, w.Text = n, s
		hold(t, ws)
	})
}
