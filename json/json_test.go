package json

import (
	ejson "encoding/json"
	"fmt"
	"math"
	"math/rand"
	"reflect"
	"slices"
	"strings"
	"sync"
	"testing"
	"time"

	"stole/api"
	"stole/real"
	"stole/utf"
	"stole/value"
)

const infinity = 2047 << 52

func null() api.Value { return api.Value{} }

func boolean(n int) api.Value { return api.Value{Kind: api.ValueBool, Int: n} }

func whole(n int) api.Value { return api.Value{Kind: api.ValueInt, Int: n} }

func bitsOf(bits uint64) api.Value { return api.Value{Kind: api.ValueReal, Bits: bits} }

func float(f float64) api.Value { return bitsOf(math.Float64bits(f)) }

func text(s string) api.Value { return api.Value{Kind: api.ValueText, Text: s} }

func list(items ...api.Value) api.Value { return api.Value{Kind: api.ValueList, Items: items} }

// record gives a record of keys and Items, by turns.
func record(parts ...any) api.Value {
	v := api.Value{Kind: api.ValueRecord}
	for i := 0; i < len(parts); i += 2 {
		v.Keys = append(v.Keys, parts[i].(string))
		v.Items = append(v.Items, parts[i+1].(api.Value))
	}
	return v
}

// rows gives n keys that rise.
func rows(n int) []string {
	var keys []string
	for i := range n {
		keys = append(keys, fmt.Sprintf("k%04d", i))
	}
	return keys
}

func nulls(n int) []api.Value { return make([]api.Value, n) }

// deep gives a tree n deep with this at its end, of Lists, Records, or each in turn.
func deep(n int, kinds string, end api.Value) api.Value {
	for i := range n - 1 {
		if kinds[i%len(kinds)] == 'L' {
			end = list(end)
		} else {
			end = record("a", end)
		}
	}
	return end
}

// sized gives a list that has n values in all, itself one of them.
func sized(n int) api.Value {
	out := list()
	for left := n - 1; left > 0; {
		part := min(left, 1+api.MaxItems)
		out.Items = append(out.Items, list(nulls(part-1)...))
		left -= part
	}
	return out
}

// same tells whether two values are one, bit by bit; an empty list and nil are one.
func same(a, b api.Value) bool {
	return a.Kind == b.Kind && a.Int == b.Int && a.Bits == b.Bits && a.Text == b.Text && slices.Equal(a.Keys, b.Keys) && slices.EqualFunc(a.Items, b.Items, same)
}

// shown gives the begin of what a value is.
func shown(v api.Value) string { return fmt.Sprintf("%.200s", fmt.Sprint(v)) }

func checkPut(t *testing.T, v api.Value, want string) {
	t.Helper()
	if got, e := Put(v); got != want || e != api.OK {
		t.Errorf("P10.1: Put(%s) = %.200q, %d, want %.200q", shown(v), got, e, want)
	}
}

// refusePut holds Put of v against an error with an empty text beside it (R2).
func refusePut(t *testing.T, name string, v api.Value, want api.Errno) {
	t.Helper()
	if got, e := Put(v); got != "" || e != want {
		t.Errorf("P10.1, R2: %s: %.80q, %d, want %d", name, got, e, want)
	}
}

func TestPutOfEachKind(t *testing.T) {
	for _, c := range []struct {
		v    api.Value
		want string
	}{
		{null(), "null"},
		{api.Value{Items: []api.Value{}, Keys: []string{}}, "null"},
		{boolean(0), "false"}, {boolean(1), "true"},
		{whole(0), "0"}, {whole(1), "1"}, {whole(-1), "-1"}, {whole(10), "10"}, {whole(-120), "-120"},
		{whole(api.MaxInt), "9007199254740991"}, {whole(-api.MaxInt), "-9007199254740991"},
		{text(""), `""`}, {text("a b"), `"a b"`}, {text("0"), `"0"`}, {text("null"), `"null"`},
		{list(), "[]"}, {list(null()), "[null]"}, {list(list()), "[[]]"}, {list(whole(1), text("x"), boolean(1)), `[1,"x",true]`},
		{list(list(), record(), list(list(), list())), "[[],{},[[],[]]]"},
		{record(), "{}"}, {record("a", null()), `{"a":null}`},
		{record("a", whole(1), "b", whole(2), "c", list(whole(3), whole(4))), `{"a":1,"b":2,"c":[3,4]}`},
		{record("a", record("a", record(), "b", list()), "b", text("{}")), `{"a":{"a":{},"b":[]},"b":"{}"}`},
		{record("\x00", null(), "\n\"<", null(), "k:,", null(), "é", null()), "{\"\uFFFD\":null,\"\\u000a\\u0022\\u003c\":null,\"k:,\":null,\"é\":null}"},
		{record("\xfe", whole(1), "\xff", whole(2)), "{\"\uFFFD\":1,\"\uFFFD\":2}"},
	} {
		checkPut(t, c.v, c.want)
	}
}

func TestPutOfReals(t *testing.T) {
	for _, c := range []struct {
		v    api.Value
		want string
	}{
		{float(math.NaN()), "null"}, {bitsOf(infinity + 1), "null"}, {bitsOf(1<<64 - 1), "null"}, {bitsOf(1<<63 | infinity | 1), "null"},
		{float(math.Inf(1)), "null"}, {float(math.Inf(-1)), "null"},
		{bitsOf(0), "0"}, {bitsOf(1 << 63), "-0"},
		{float(1), "1"}, {float(-1), "-1"}, {float(1e15), "1000000000000000"}, {float(-12), "-12"},
		{float(api.MaxInt), "9007199254740991"}, {float(-api.MaxInt), "-9007199254740991"},
		{float(api.MaxInt + 1), `"1p53"`}, {float(-api.MaxInt - 1), `"-1p53"`},
		{float(0.5), `"1p-1"`}, {float(-0.75), `"-3p-2"`}, {float(1e300), `"` + real.Text(math.Float64bits(1e300)) + `"`},
		{bitsOf(1), `"1p-1074"`}, {bitsOf(1<<63 | 1), `"-1p-1074"`}, {bitsOf(infinity - 1), `"9007199254740991p971"`},
	} {
		checkPut(t, c.v, c.want)
		checkPut(t, list(c.v, c.v), "["+c.want+","+c.want+"]")
		checkPut(t, record("r", c.v), `{"r":`+c.want+`}`)
	}
}

func TestPutOfTexts(t *testing.T) {
	for b := range 256 {
		one := string([]byte{byte(b)})
		want := fmt.Sprintf(`\u%04x`, b)
		switch {
		case b == 0 || b > 127:
			want = "\uFFFD"
		case b >= 'A' && b <= 'Z' || b >= 'a' && b <= 'z' || b >= '0' && b <= '9' || strings.Contains(" !#$%()*+,-./:;=?@[]^_{|}~", one):
			want = one
		}
		checkPut(t, text(one), `"`+want+`"`)
		checkPut(t, text("x"+one+"y"), `"x`+want+`y"`)
		checkPut(t, record(one, null()), `{"`+want+`":null}`)
	}
	checkPut(t, text("\u2027\u2028\u2029\u202a"), "\"\u2027\\u2028\\u2029\u202a\"")
	checkPut(t, record("\u2028", null()), `{"\u2028":null}`)
	checkPut(t, text("é\U0001F600\uFFFD"), "\"é\U0001F600\uFFFD\"")
	checkPut(t, text("\xed\xa0\x80"), "\"\uFFFD\uFFFD\uFFFD\"")
	checkPut(t, text("a\xe2\x80"), "\"a\uFFFD\uFFFD\"")
	checkPut(t, text("</script>"), `"\u003c/script\u003e"`)
}

func TestPutOfWhatMayNotBe(t *testing.T) {
	x := strings.Repeat
	loop := list(null())
	loop.Items[0] = loop
	for i, v := range []api.Value{
		{Kind: -1}, {Kind: 7}, {Kind: math.MaxInt}, {Kind: math.MinInt},
		{Int: 1}, {Bits: 1}, {Text: "x"}, {Items: nulls(1)}, {Keys: rows(1)},
		boolean(2), boolean(-1), {Kind: api.ValueBool, Bits: 1}, {Kind: api.ValueBool, Text: "x"}, {Kind: api.ValueBool, Items: nulls(1)}, {Kind: api.ValueBool, Keys: rows(1)},
		whole(api.MaxInt + 1), whole(-api.MaxInt - 1), whole(math.MaxInt), whole(math.MinInt), {Kind: api.ValueInt, Bits: 1 << 63}, {Kind: api.ValueInt, Text: "1"}, {Kind: api.ValueInt, Items: nulls(1)}, {Kind: api.ValueInt, Keys: rows(1)},
		{Kind: api.ValueReal, Int: 1}, {Kind: api.ValueReal, Text: "x"}, {Kind: api.ValueReal, Items: nulls(1)}, {Kind: api.ValueReal, Keys: rows(1)},
		text(x("x", api.MaxText+1)), {Kind: api.ValueText, Int: 1}, {Kind: api.ValueText, Bits: 1}, {Kind: api.ValueText, Items: nulls(1)}, {Kind: api.ValueText, Keys: rows(1)},
		list(nulls(api.MaxItems + 1)...), {Kind: api.ValueList, Int: 1}, {Kind: api.ValueList, Bits: 1}, {Kind: api.ValueList, Text: "x"}, {Kind: api.ValueList, Items: nulls(1), Keys: rows(1)},
		{Kind: api.ValueRecord, Items: nulls(65), Keys: rows(65)}, {Kind: api.ValueRecord, Items: nulls(1)}, {Kind: api.ValueRecord, Keys: rows(1)}, {Kind: api.ValueRecord, Items: nulls(2), Keys: rows(1)}, {Kind: api.ValueRecord, Items: nulls(1), Keys: rows(2)},
		{Kind: api.ValueRecord, Int: 1}, {Kind: api.ValueRecord, Bits: 1}, {Kind: api.ValueRecord, Text: "x"},
		record("", null()), record(x("k", api.MaxKey+1), null()), record("a", null(), "a", null()), record("b", null(), "a", null()),
		deep(api.MaxDeep+1, "L", null()), deep(api.MaxDeep+1, "R", list()), deep(api.MaxDeep+1, "LR", null()), sized(api.MaxValues + 1), loop,
	} {
		refusePut(t, fmt.Sprint("row ", i), v, api.ErrJsonForm)
		refusePut(t, fmt.Sprint("row ", i, " in a list"), list(whole(1), v, null()), api.ErrJsonForm)
		refusePut(t, fmt.Sprint("row ", i, " in a record"), record("a", null(), "b", list(v)), api.ErrJsonForm)
		// R6: what may not be is told ahead of what is too long.
		long := text(x("x", api.MaxText))
		refusePut(t, fmt.Sprint("row ", i, " behind long texts"), list(long, long, v), api.ErrJsonForm)
	}
}

func TestPutOfTheGreatest(t *testing.T) {
	checkPut(t, deep(api.MaxDeep, "L", null()), "[[[[[[[null]]]]]]]")
	checkPut(t, deep(api.MaxDeep, "R", list()), strings.Repeat(`{"a":`, 7)+"[]"+strings.Repeat("}", 7))
	checkPut(t, list(nulls(api.MaxItems)...), "["+strings.Repeat("null,", 63)+"null]")
	checkPut(t, record(strings.Repeat("k", api.MaxKey), null()), `{"`+strings.Repeat("k", 32)+`":null}`)
	full := api.Value{Kind: api.ValueRecord, Keys: rows(api.MaxItems), Items: nulls(api.MaxItems)}
	want := ""
	for _, key := range rows(api.MaxItems) {
		want += `,"` + key + `":null`
	}
	checkPut(t, full, "{"+want[1:]+"}")
	if s, e := Put(sized(api.MaxValues)); e != api.OK || strings.Count(s, "[")+strings.Count(s, "null") != api.MaxValues {
		t.Errorf("P10.1: %d values: %d", api.MaxValues, e)
	}
}

// TestPutOfLongTexts: values whose text is as long as MaxText, and one byte longer, whatever is the last to come.
func TestPutOfLongTexts(t *testing.T) {
	x := strings.Repeat
	for i, make1 := range []func(s string) (api.Value, string){
		func(s string) (api.Value, string) { return text(s), `"` + s + `"` },
		func(s string) (api.Value, string) { return list(text(s)), `["` + s + `"]` },
		func(s string) (api.Value, string) { return list(text(s), whole(-12)), `["` + s + `",-12]` },
		func(s string) (api.Value, string) {
			return list(list(), text(s), list(list())), `[[],"` + s + `",[[]]]`
		},
		func(s string) (api.Value, string) { return record("k", text(s)), `{"k":"` + s + `"}` },
		func(s string) (api.Value, string) {
			return record("k", text(s), "key", boolean(0)), `{"k":"` + s + `","key":false}`
		},
		func(s string) (api.Value, string) {
			return list(text(s), record("<", null())), `["` + s + `",{"\u003c":null}]`
		},
		func(s string) (api.Value, string) {
			half := len(s) / 2
			return list(text(s[:half]), text(s[half:])), `["` + s[:half] + `","` + s[half:] + `"]`
		},
		func(s string) (api.Value, string) { return text(x("<", 9000) + s), `"` + x(`\u003c`, 9000) + s + `"` },
		func(s string) (api.Value, string) {
			return text(x("\xff", 9000) + s), `"` + x("\uFFFD", 9000) + s + `"`
		},
		func(s string) (api.Value, string) { return text(s + "\u2028"), `"` + s + `\u2028"` },
		func(s string) (api.Value, string) {
			return deep(api.MaxDeep, "L", text(s)), x("[", 7) + `"` + s + `"` + x("]", 7)
		},
	} {
		_, empty := make1("")
		room := api.MaxText - len(empty)
		v, want := make1(x("x", room))
		if len(want) != api.MaxText {
			t.Fatalf("row %d: %d bytes", i, len(want))
		}
		checkPut(t, v, want)
		v, want = make1(x("x", room-1))
		checkPut(t, v, want)
		for more := 1; more < 3; more++ {
			v, _ = make1(x("x", room+more))
			refusePut(t, fmt.Sprint("row ", i, " and ", more), v, api.ErrJsonLong)
		}
	}
	refusePut(t, "marks", text(x("<", api.MaxText)), api.ErrJsonLong)
	refusePut(t, "marks", text(x("<", 10923)), api.ErrJsonLong)
	refusePut(t, "bytes of no sign", text(x("\xff", 21845)), api.ErrJsonLong)
	keys := list()
	for range 7 {
		row := api.Value{Kind: api.ValueRecord, Items: nulls(64)}
		for _, key := range rows(64) {
			row.Keys = append(row.Keys, key+x("\xff", 27))
		}
		keys.Items = append(keys.Items, list(row, row))
	}
	refusePut(t, "keys", keys, api.ErrJsonLong)
}

// TestPutOfManyLongTexts: a value that is far too long ends soon.
func TestPutOfManyLongTexts(t *testing.T) {
	long := text(strings.Repeat("\xff", api.MaxText))
	v := list()
	for range 15 {
		v.Items = append(v.Items, list(slices.Repeat([]api.Value{long}, 64)...))
	}
	begin := time.Now()
	for range 100 {
		refusePut(t, "many long texts", v, api.ErrJsonLong)
	}
	if spent := time.Since(begin); spent > 20*time.Second {
		t.Errorf("R1: %v", spent)
	}
}

// chanceText gives a random text.
func chanceText(r *rand.Rand, most int) string {
	signs := []string{"a", "Z", "0", " ", "<", ">", "&", "'", "\"", "\\", "/", "`", "\n", "\x00", "\x1f", "\x7f", "\xff", "\xe2\x80", "é", "\u2028", "\u2029", "\uFFFD", "\uFFFF", "\U00010000", "\U0010FFFF", `\u0041`}
	s := ""
	for range r.Intn(most + 1) {
		if r.Intn(5) == 0 {
			s += string([]byte{byte(r.Intn(256))})
		} else {
			s += signs[r.Intn(len(signs))]
		}
	}
	return s
}

func chanceReal(r *rand.Rand) uint64 {
	switch r.Intn(4) {
	case 0:
		return uint64(r.Intn(2))<<63 | uint64(r.Intn(3))
	case 1:
		return uint64(r.Intn(2))<<63 | infinity + uint64(r.Intn(3)) - 1
	case 2:
		return math.Float64bits(float64(r.Int63n(1<<54) - 1<<53))
	}
	return r.Uint64()
}

// chance gives a random value that may be, at most so deep; its keys May by layer 1, if that is asked for.
func chance(r *rand.Rand, most int, textKeys bool) api.Value {
	kind := r.Intn(7)
	if most <= 1 {
		kind = r.Intn(5)
	}
	v := api.Value{Kind: kind}
	switch kind {
	case api.ValueBool:
		v.Int = r.Intn(2)
	case api.ValueInt:
		v.Int = []int{r.Intn(200) - 100, r.Intn(2*api.MaxInt+1) - api.MaxInt, api.MaxInt, -api.MaxInt, 0}[r.Intn(5)]
	case api.ValueReal:
		v.Bits = chanceReal(r)
	case api.ValueText:
		v.Text = chanceText(r, 8)
	case api.ValueRecord:
		for range r.Intn(5) {
			key := chanceText(r, 6)
			if textKeys {
				key = strings.ReplaceAll(utf.Norm(key), "\uFFFD", "\x01")
			}
			if key != "" && len(key) <= api.MaxKey {
				v.Keys = append(v.Keys, key)
			}
		}
		slices.Sort(v.Keys)
		v.Keys = slices.Compact(v.Keys)
		for range v.Keys {
			v.Items = append(v.Items, chance(r, most-1, textKeys))
		}
	case api.ValueList:
		for range r.Intn(5) {
			v.Items = append(v.Items, chance(r, most-1, textKeys))
		}
	}
	return v
}

// back gives the value that P10.3 promises of one that was put.
func back(v api.Value) api.Value {
	out := api.Value{Kind: v.Kind, Int: v.Int, Text: utf.Norm(v.Text), Keys: v.Keys}
	if v.Kind == api.ValueReal {
		n, _ := real.Whole(v.Bits)
		switch kind := real.Kind(v.Bits); {
		case v.Bits == 1<<63:
			return v
		case kind == api.RealZero || kind == api.RealWhole:
			return whole(n)
		case kind == api.RealOther:
			return text(real.Text(v.Bits))
		}
		return null()
	}
	for _, item := range v.Items {
		out.Items = append(out.Items, back(item))
	}
	return out
}

func checkBack(t *testing.T, v api.Value) {
	t.Helper()
	s, e := Put(v)
	if e != api.OK {
		t.Fatalf("P10.1: Put(%s): %d", shown(v), e)
	}
	if got, e := Get(s); e != api.OK || !same(got, back(v)) {
		t.Fatalf("P10.3: %s: %.200q: %s, %d", shown(v), s, shown(got), e)
	}
}

func TestThereAndBack(t *testing.T) {
	for _, v := range []api.Value{
		null(), boolean(0), boolean(1), whole(0), whole(1), whole(-1), whole(api.MaxInt), whole(-api.MaxInt),
		float(math.NaN()), float(math.Inf(1)), float(math.Inf(-1)), bitsOf(0), bitsOf(1 << 63), float(7), float(-7), float(api.MaxInt), float(-api.MaxInt), float(api.MaxInt + 1), float(0.5), float(-0.5), bitsOf(1),
		text(""), text("x"), text("\x00\xff"), text("\"\\/\b\f\n\r\t\u2028"), text("\U0001F600"), text(strings.Repeat("x", api.MaxText-2)),
		list(), record(), list(list(), record()), record("a", record(), "b", list(null())), record("\x01\"\\", null(), "\u2028", null(), "\uFFFF", null(), "\U00010000", null()),
		record(strings.Repeat("\n", api.MaxKey), whole(1)), deep(api.MaxDeep, "LR", text("<")), deep(api.MaxDeep, "RL", record()), sized(api.MaxValues), list(nulls(api.MaxItems)...),
		{Kind: api.ValueRecord, Keys: rows(api.MaxItems), Items: nulls(api.MaxItems)},
	} {
		checkBack(t, v)
		if v.Kind == api.ValueText && len(v.Text) > 1000 || !value.May(list(list(v))) {
			continue
		}
		checkBack(t, list(v, whole(1), v))
		checkBack(t, record("a", v, "b", list(v)))
	}
	// Of other Keys Norm may be too long, or not above the one ahead.
	for _, v := range []api.Value{record("\xfe", null(), "\xff", null()), record(strings.Repeat("\xff", 11), null()), record("\uFFFE", null(), "\xff", null())} {
		s, e := Put(v)
		if got, f := Get(s); e != api.OK || f != api.ErrJsonForm || !reflect.DeepEqual(got, api.Value{}) {
			t.Errorf("P10.2: %q, %d: %v, %d", s, e, got, f)
		}
	}
	if got, e := Get("{\"\uFFFD\":1}"); e != api.OK || !same(got, record("\uFFFD", whole(1))) {
		t.Errorf("P10.2: %v, %d", got, e)
	}
}

// TestPutOfChance: what is put reads back (P10.3), is JSON to another reader, and has no sign that T5 rules out.
func TestPutOfChance(t *testing.T) {
	r := rand.New(rand.NewSource(10))
	for range 20000 {
		v := chance(r, 1+r.Intn(6), true)
		checkBack(t, v)
		s, _ := Put(v)
		if !ejson.Valid([]byte(s)) || strings.ContainsAny(s, "<>&'`\u2028\u2029") || !utf.May(s) {
			t.Fatalf("T5: %q", s)
		}
		for i := range len(s) {
			if s[i] < ' ' || s[i] == 127 {
				t.Fatalf("T5: %q", s)
			}
		}
	}
}

// spoil overwrites each list of a tree, its spare room too.
func spoil(v *api.Value) {
	for i := range v.Items {
		spoil(&v.Items[i])
	}
	items, keys := v.Items[:cap(v.Items)], v.Keys[:cap(v.Keys)]
	for i := range items {
		items[i] = text("spoilt")
	}
	for i := range keys {
		keys[i] = "spoilt"
	}
}

// roomy gives a value with spare room, and one list at several places.
func roomy() api.Value {
	one := list(append(make([]api.Value, 0, 8), whole(1), text("x<"))...)
	v := record("a", one, "b", one, "c", record("k", one), "d", list())
	v.Items = append(make([]api.Value, 0, 8), v.Items...)
	v.Keys = append(make([]string, 0, 8), v.Keys...)
	return v
}

func TestWhatIsPutStays(t *testing.T) {
	v := roomy()
	s, e := Put(v)
	const want = `{"a":[1,"x\u003c"],"b":[1,"x\u003c"],"c":{"k":[1,"x\u003c"]},"d":[]}`
	if s != want || e != api.OK {
		t.Errorf("P10.1: %q, %d", s, e)
	}
	if !reflect.DeepEqual(v, roomy()) || v.Keys[:5][4] != "" || !reflect.DeepEqual(v.Items[:8][4:], nulls(4)) || !reflect.DeepEqual(v.Items[0].Items[:8][2:], nulls(6)) {
		t.Error("R4: Put changed what was handed in")
	}
	refusePut(t, "two long texts", list(v, text(strings.Repeat("x", api.MaxText))), api.ErrJsonLong)
	if !reflect.DeepEqual(v, roomy()) {
		t.Error("R4: Put changed what was handed in")
	}
	spoil(&v)
	if s != want {
		t.Error("R4: what Put told changed")
	}
}

func TestWhatIsReadStandsAlone(t *testing.T) {
	const s = `{"a":[1,"x"],"b":[1,"x"],"c":{"k":[],"l":{}},"d":[[2],[3]]}`
	want := record("a", list(whole(1), text("x")), "b", list(whole(1), text("x")), "c", record("k", list(), "l", record()), "d", list(list(whole(2)), list(whole(3))))
	one, _ := Get(s)
	two, _ := Get(s)
	if !same(one, want) || !same(two, want) {
		t.Fatalf("P10.2: %v, %v", one, two)
	}
	for i := range one.Items {
		spoil(&one.Items[i])
		for j := i + 1; j < len(one.Items); j++ {
			if !same(one.Items[j], want.Items[j]) {
				t.Error("R4: two lists of one answer share")
			}
		}
	}
	if !slices.Equal(one.Keys, want.Keys) {
		t.Error("R4: two lists of one answer share")
	}
	spoil(&one)
	if three, _ := Get(s); !same(two, want) || !same(three, want) {
		t.Error("R4: two answers share")
	}
}

// TestCallsAtOneTime: R5.
func TestCallsAtOneTime(t *testing.T) {
	v := roomy()
	want, _ := Put(v)
	var all sync.WaitGroup
	for range 8 {
		all.Go(func() {
			for range 100 {
				s, e := Put(v)
				got, f := Get(s)
				if _, g := Get(s + "]"); s != want || e != api.OK || f != api.OK || g != api.ErrJsonForm || !same(got, v) {
					t.Errorf("R5: %q, %d, %v, %d, %d", s, e, got, f, g)
				}
			}
		})
	}
	all.Wait()
}

func BenchmarkPut(b *testing.B) {
	v := list(slices.Repeat([]api.Value{text(strings.Repeat("a<é", 100))}, 60)...)
	for b.Loop() {
		Put(v)
	}
}
