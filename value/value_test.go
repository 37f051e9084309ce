package value

import (
	"fmt"
	"math"
	"math/big"
	"math/rand"
	"reflect"
	"slices"
	"strings"
	"sync"
	"testing"

	"stole/api"
)

const infinity = 2047 << 52

func null() api.Value { return api.Value{} }

func boolean(n int) api.Value { return api.Value{Kind: api.ValueBool, Int: n} }

func whole(n int) api.Value { return api.Value{Kind: api.ValueInt, Int: n} }

func bitsOf(bits uint64) api.Value { return api.Value{Kind: api.ValueReal, Bits: bits} }

func float(f float64) api.Value { return bitsOf(math.Float64bits(f)) }

func text(s string) api.Value { return api.Value{Kind: api.ValueText, Text: s} }

func list(items ...api.Value) api.Value { return api.Value{Kind: api.ValueList, Items: items} }

// record gives a record with these keys, and a Null at each.
func record(keys ...string) api.Value {
	return api.Value{Kind: api.ValueRecord, Keys: keys, Items: make([]api.Value, len(keys))}
}

func nulls(n int) []api.Value { return make([]api.Value, n) }

// at gives a record with one key.
func at(key string, item api.Value) api.Value {
	return api.Value{Kind: api.ValueRecord, Keys: []string{key}, Items: []api.Value{item}}
}

// rows gives n keys that rise.
func rows(n int) []string {
	var keys []string
	for i := range n {
		keys = append(keys, fmt.Sprintf("k%03d", i))
	}
	return keys
}

// deep gives a tree n deep with this at its end, of Lists, Records, or each in turn.
func deep(n int, kinds string, end api.Value) api.Value {
	for i := range n - 1 {
		if kinds[i%len(kinds)] == 'L' {
			end = list(end)
		} else {
			end = at("a", end)
		}
	}
	return end
}

// sized gives a list that has n values in all, itself one of them.
func sized(n int) api.Value {
	out := list()
	for left := n - 1; left > 0; {
		part := min(left, 1+api.MaxItems)
		out.Items = append(out.Items, list(nulls(part-1)...))
		left -= part
	}
	return out
}

// refuse holds all six calls against what they answer of a value that may not be.
func refuse(t *testing.T, name string, v api.Value) {
	t.Helper()
	if May(v) {
		t.Errorf("%s: May", name)
	}
	if True(v) {
		t.Errorf("%s: True", name)
	}
	if s, e := Text(v); s != "" || e != api.ErrValueForm {
		t.Errorf("%s: Text: %q, %d", name, s, e)
	}
	if Same(v, v) || Same(v, null()) || Same(null(), v) {
		t.Errorf("%s: Same", name)
	}
	for _, other := range []api.Value{v, null(), whole(1), text("x"), list()} {
		if is, e := Less(v, other); is || e != api.ErrValueForm {
			t.Errorf("%s: Less: %v, %d", name, is, e)
		}
		if is, e := Less(other, v); is || e != api.ErrValueForm {
			t.Errorf("%s: Less: %v, %d", name, is, e)
		}
	}
	for _, path := range [][]string{nil, {"a"}, {"a", "b"}, make([]string, 9)} {
		if got, e := Get(v, path); e != api.ErrValueForm || !isZero(got) {
			t.Errorf("%s: Get: %v, %d", name, got, e)
		}
	}
}

func isZero(v api.Value) bool { return reflect.DeepEqual(v, api.Value{}) }

// examples gives values that may be, two of a kind.
func examples() []api.Value {
	return []api.Value{
		null(), {Items: []api.Value{}, Keys: []string{}},
		boolean(0), boolean(1),
		whole(0), whole(-7),
		float(0), float(1.5),
		text(""), text("x"),
		list(), list(null()),
		record(), record("a"),
	}
}

func TestMayAtTheKinds(t *testing.T) {
	for i, v := range examples() {
		if v.Kind != i/2 || !May(v) {
			t.Errorf("row %d: %v", i, v)
		}
	}
	for _, kind := range []int{-1, 7, 8, 9, 256, 1 << 32, math.MinInt, math.MaxInt, -2} {
		refuse(t, fmt.Sprint("kind ", kind), api.Value{Kind: kind})
		refuse(t, fmt.Sprint("kind ", kind, " below"), list(null(), list(api.Value{Kind: kind})))
	}
}

func TestMayOfFieldsThatTheKindDoesNotName(t *testing.T) {
	named := []string{"", "Int", "Int", "Bits", "Text", "Items", "ItemsKeys"}
	for kind, names := range named {
		for _, sample := range examples()[2*kind : 2*kind+2] {
			for _, field := range []string{"Int", "Bits", "Text", "Items", "Keys"} {
				if strings.Contains(names, field) {
					continue
				}
				for _, more := range []int{1, -1} {
					v := sample
					switch field {
					case "Int":
						v.Int = more
					case "Bits":
						v.Bits = uint64(more)
					case "Text":
						v.Text = []string{"x", "\x00"}[(1+more)/2]
					case "Items":
						v.Items = nulls(2 + more)
					case "Keys":
						v.Keys = rows(2 + more)
					}
					refuse(t, fmt.Sprint("kind ", kind, " with ", field), v)
					refuse(t, fmt.Sprint("kind ", kind, " with ", field, " in a list"), list(null(), v))
					refuse(t, fmt.Sprint("kind ", kind, " with ", field, " in a record"), at("a", v))
				}
			}
		}
	}
	// A list as long as the keys is still nothing that a Null, or a Text, may have.
	refuse(t, "null as a record", api.Value{Items: nulls(1), Keys: rows(1)})
	refuse(t, "text as a record", api.Value{Kind: api.ValueText, Items: nulls(1), Keys: rows(1)})
	// The minus zero is not zero by its bits.
	refuse(t, "int with -0", api.Value{Kind: api.ValueInt, Bits: 1 << 63})
}

func TestMayAtTheBounds(t *testing.T) {
	x := strings.Repeat
	for i, v := range []api.Value{
		boolean(0), boolean(1), whole(api.MaxInt), whole(-api.MaxInt), whole(0),
		bitsOf(0), bitsOf(1 << 63), bitsOf(1<<64 - 1), bitsOf(infinity), bitsOf(infinity + 1),
		text(x("x", api.MaxText)), text(x("é", api.MaxText/2)), text("\xff\x00"),
		list(nulls(api.MaxItems)...), record(rows(api.MaxItems)...),
		record(x("k", api.MaxKey)), record("\x00"), record("\x00", "\x00\x00"), record("a", "aa", "b"), record("Z", "a", "\x7f", "\x80", "é", "\xff"), record(x("k", 31), x("k", 32)),
	} {
		if !May(v) || !May(list(v)) || !May(at("k", v)) {
			t.Errorf("row %d: %.80v", i, v)
		}
	}
	for i, v := range []api.Value{
		boolean(2), boolean(-1), boolean(math.MinInt), boolean(256), whole(api.MaxInt + 1), whole(-api.MaxInt - 1), whole(math.MaxInt), whole(math.MinInt),
		text(x("x", api.MaxText+1)), text(x("é", api.MaxText/2) + "x"), text(x("x", 1<<20)),
		list(nulls(api.MaxItems + 1)...), list(nulls(1 << 16)...), record(rows(api.MaxItems + 1)...), record(rows(1 << 12)...),
		record(x("k", api.MaxKey+1)), record("a", x("k", api.MaxKey+1)), record(x("é", 17)), record(x("k", 1<<20)),
		record(""), record("", "a"), record("a", ""), record("a", "a"), record("b", "a"), record("a", "c", "b"), record("a", "b", "b"), record("aa", "a"), record("é", "z"), record("\xff", "\x80"), record("a", "B"),
		{Kind: api.ValueRecord, Keys: rows(2), Items: nulls(1)}, {Kind: api.ValueRecord, Keys: rows(1), Items: nulls(2)}, {Kind: api.ValueRecord, Items: nulls(1)}, {Kind: api.ValueRecord, Keys: rows(1)}, {Kind: api.ValueRecord, Keys: rows(64), Items: nulls(65)}, {Kind: api.ValueRecord, Keys: rows(65), Items: nulls(64)},
	} {
		refuse(t, fmt.Sprint("row ", i), v)
		refuse(t, fmt.Sprint("row ", i, " in a list"), list(null(), v, null()))
		refuse(t, fmt.Sprint("row ", i, " in a record"), at("k", list(v)))
	}
}

func TestMayOfDeepTrees(t *testing.T) {
	for _, kinds := range []string{"L", "R", "LR", "RRL"} {
		for _, end := range []api.Value{null(), text("x"), list(), record()} {
			for n := 1; n <= api.MaxDeep; n++ {
				if !May(deep(n, kinds, end)) {
					t.Errorf("%s: %d deep", kinds, n)
				}
			}
			refuse(t, kinds, deep(api.MaxDeep+1, kinds, end))
			refuse(t, kinds, list(null(), deep(api.MaxDeep, kinds, end)))
			refuse(t, kinds, deep(10000, kinds, end))
		}
	}
	// Only the deepest counts.
	if v := deep(8, "L", null()); !May(list(v.Items[0], deep(7, "R", null()), null())) {
		t.Error("two deep ones side by side")
	}
	refuse(t, "the last is too deep", list(deep(7, "L", null()), null(), deep(8, "R", null())))
}

func TestMayOfManyValues(t *testing.T) {
	for n := 1; n <= 1100; n++ {
		if May(sized(n)) != (n <= api.MaxValues) {
			t.Errorf("%d values", n)
		}
	}
	refuse(t, "one value too many", sized(api.MaxValues+1))
	// The records count as the lists do, and values of any kind.
	out := record(rows(16)...)
	for i := range out.Items {
		out.Items[i] = record(rows(63)...)
	}
	out.Items[3] = record(rows(62)...)
	if !May(out) {
		t.Error("1024 values in records")
	}
	out.Items[3] = list(slices.Repeat([]api.Value{text("y")}, 63)...)
	refuse(t, "1025 values in records", out)
	out.Items[7].Items[9] = whole(1)
	out.Items[3] = text("y")
	if !May(out) {
		t.Error("961 values in records")
	}
	// A chain of wide lists counts what stands ahead of the deep one.
	chain := null()
	for range 7 {
		chain = list(append(nulls(63), chain)...)
	}
	if !May(chain) {
		t.Error("449 values in a chain")
	}
}

func TestMayEndsWhereAListHoldsItself(t *testing.T) {
	one := list(null())
	one.Items[0] = one
	refuse(t, "a list in itself", one)
	wide := list(nulls(64)...)
	for i := range wide.Items {
		wide.Items[i] = wide
	}
	refuse(t, "a wide list in itself", wide)
	named := record(rows(64)...)
	for i := range named.Items {
		named.Items[i] = named
	}
	refuse(t, "a wide record in itself", named)
	// 64 to the 7 values, of a tree that is not too deep.
	shared := null()
	for range 7 {
		shared = list(slices.Repeat([]api.Value{shared}, 64)...)
	}
	refuse(t, "lists shared over and over", shared)
}

// wantedMay reckons by itself what may be, of a tree that is small.
func wantedMay(v api.Value) bool {
	return depth(v) <= 8 && count(v) <= 1024 && wellMade(v)
}

func depth(v api.Value) int {
	most := 0
	for _, item := range v.Items {
		most = max(most, depth(item))
	}
	return most + 1
}

func count(v api.Value) int {
	n := 1
	for _, item := range v.Items {
		n += count(item)
	}
	return n
}

func wellMade(v api.Value) bool {
	for _, item := range v.Items {
		if !wellMade(item) {
			return false
		}
	}
	noInt, noBits, noText := v.Int == 0, v.Bits == 0, len(v.Text) == 0
	noItems, noKeys := len(v.Items) == 0, len(v.Keys) == 0
	switch v.Kind {
	case 0:
		return noInt && noBits && noText && noItems && noKeys
	case 1:
		return (v.Int == 0 || v.Int == 1) && noBits && noText && noItems && noKeys
	case 2:
		return v.Int < 1<<53 && v.Int > -1<<53 && noBits && noText && noItems && noKeys
	case 3:
		return noInt && noText && noItems && noKeys
	case 4:
		return noInt && noBits && len(v.Text) < 65537 && noItems && noKeys
	case 5:
		return noInt && noBits && noText && len(v.Items) < 65 && noKeys
	case 6:
		for i, key := range v.Keys {
			if len(key) == 0 || len(key) > 32 || i > 0 && strings.Compare(v.Keys[i-1], key) >= 0 {
				return false
			}
		}
		return noInt && noBits && noText && len(v.Items) < 65 && len(v.Keys) == len(v.Items)
	}
	return false
}

// random gives a tree that may be.
func random(r *rand.Rand, deep int) api.Value {
	kind := r.Intn(7)
	if deep <= 1 {
		kind = r.Intn(5)
	}
	v := api.Value{Kind: kind}
	switch kind {
	case api.ValueBool:
		v.Int = r.Intn(2)
	case api.ValueInt:
		v.Int = (r.Intn(5) - 2) * []int{1, 100, api.MaxInt / 2}[r.Intn(3)]
	case api.ValueReal:
		v.Bits = edges()[r.Intn(len(edges()))]
	case api.ValueText:
		v.Text = []string{"", "a", "ab", "é", "\xff", "\x00"}[r.Intn(6)]
	case api.ValueList:
		for range r.Intn(5) {
			v.Items = append(v.Items, random(r, deep-1))
		}
	case api.ValueRecord:
		for _, key := range []string{"a", "ab", "b", "é", "\xff"} {
			if r.Intn(2) == 0 {
				v.Keys = append(v.Keys, key)
				v.Items = append(v.Items, random(r, deep-1))
			}
		}
	}
	return v
}

// places gives each value of a tree, as a pointer into it.
func places(v *api.Value) []*api.Value {
	out := []*api.Value{v}
	for i := range v.Items {
		out = append(out, places(&v.Items[i])...)
	}
	return out
}

// turn changes one thing somewhere in a tree.
func turn(r *rand.Rand, v *api.Value) {
	all := places(v)
	p := all[r.Intn(len(all))]
	switch r.Intn(9) {
	case 0:
		p.Kind = r.Intn(9) - 1
	case 1:
		p.Int = []int{0, 1, 2, -1, api.MaxInt, api.MaxInt + 1, -api.MaxInt - 1}[r.Intn(7)]
	case 2:
		p.Bits ^= 1 << r.Intn(64)
	case 3:
		p.Text += "x"
	case 4:
		p.Items = append(p.Items, random(r, 2))
	case 5:
		p.Items = append(p.Items, random(r, 2))
		p.Keys = append(p.Keys, "z")
	case 6:
		if len(p.Keys) > 1 {
			p.Keys[0], p.Keys[1] = p.Keys[1], p.Keys[0]
		}
	case 7:
		if len(p.Keys) > 0 {
			p.Keys[r.Intn(len(p.Keys))] = []string{"", "a", "aa", "ab", "z"}[r.Intn(5)]
		}
	case 8:
		*p = deep(1+r.Intn(7), "LR", *p)
	}
}

func TestMayOfRandomTrees(t *testing.T) {
	r := rand.New(rand.NewSource(4))
	fine, wrong := 0, 0
	for range 20000 {
		v := random(r, 4)
		if !May(v) {
			t.Fatalf("%v", v)
		}
		for range 1 + r.Intn(2) {
			turn(r, &v)
		}
		if wantedMay(v) {
			fine++
		} else {
			wrong++
		}
		if May(v) != wantedMay(v) {
			t.Fatalf("%v: %v", v, May(v))
		}
	}
	if fine < 1000 || wrong < 1000 {
		t.Errorf("%d fine, %d wrong", fine, wrong)
	}
}

func TestTrueAndText(t *testing.T) {
	for i, c := range []struct {
		v    api.Value
		is   bool
		text string
	}{
		{null(), false, ""},
		{api.Value{Items: []api.Value{}}, false, ""},
		{boolean(0), false, "false"},
		{boolean(1), true, "true"},
		{whole(0), false, "0"},
		{whole(1), true, "1"},
		{whole(-1), true, "-1"},
		{whole(1234567890), true, "1234567890"},
		{whole(api.MaxInt), true, "9007199254740991"},
		{whole(-api.MaxInt), true, "-9007199254740991"},
		{bitsOf(0), false, "0"},
		{bitsOf(1 << 63), false, "-0"},
		{bitsOf(infinity), true, "Infinity"},
		{bitsOf(1<<63 | infinity), true, "-Infinity"},
		{bitsOf(infinity + 1), false, "NaN"},
		{bitsOf(1<<64 - 1), false, "NaN"},
		{float(1), true, "1"},
		{float(-12), true, "-12"},
		{float(0.5), true, "1p-1"},
		{float(-0.75), true, "-3p-2"},
		{bitsOf(1), true, "1p-1074"},
		{float(1 << 53), true, "1p53"},
		{text(""), false, ""},
		{text("x"), true, "x"},
		{text("0"), true, "0"},
		{text("false"), true, "false"},
		{text("\x00"), true, "\x00"},
		{text("a\xff<&é"), true, "a\xff<&é"},
		{text(strings.Repeat("y", api.MaxText)), true, strings.Repeat("y", api.MaxText)},
	} {
		if True(c.v) != c.is {
			t.Errorf("row %d: True: %v", i, !c.is)
		}
		if s, e := Text(c.v); s != c.text || e != api.OK {
			t.Errorf("row %d: Text: %.80q, %d", i, s, e)
		}
	}
	for i, c := range []struct {
		v  api.Value
		is bool
	}{
		{list(), false}, {api.Value{Kind: api.ValueList, Items: []api.Value{}}, false}, {record(), false},
		{list(null()), true}, {list(boolean(0)), true}, {record("a"), true}, {at("a", list()), true}, {sized(1024), true}, {deep(8, "LR", null()), true},
	} {
		if True(c.v) != c.is {
			t.Errorf("row %d: True: %v", i, !c.is)
		}
		if s, e := Text(c.v); s != "" || e != api.ErrValueType {
			t.Errorf("row %d: Text: %q, %d", i, s, e)
		}
	}
}

// edges gives reals of each of layer 3's kinds, in no order.
func edges() []uint64 {
	var out []uint64
	for _, size := range []uint64{0, 1, 2, 1<<52 - 1, 1 << 52, 1<<52 + 1, 1 << 53, 1022 << 52, 1023 << 52, 1023<<52 + 1, 1023<<52 - 1, 1024 << 52, 1075 << 52, 1076<<52 - 1, 1076 << 52, 2046 << 52, 2047<<52 - 1, infinity} {
		out = append(out, size, 1<<63|size)
	}
	return append(out, infinity+1, infinity+1<<51, 1<<63|(infinity+1), 1<<64-1, math.Float64bits(math.Pi), math.Float64bits(-math.Pi))
}

// order reckons how two reals stand, by big numbers; false: one of them is NaN.
func order(a uint64, b uint64) (int, bool) {
	f, g := math.Float64frombits(a), math.Float64frombits(b)
	if f != f || g != g {
		return 0, false
	}
	return new(big.Float).SetFloat64(f).Cmp(new(big.Float).SetFloat64(g)), true
}

func holdReals(t *testing.T, a uint64, b uint64) {
	t.Helper()
	cmp, is := order(a, b)
	if got := Same(bitsOf(a), bitsOf(b)); got != (is && cmp == 0) {
		t.Fatalf("Same: %x, %x: %v", a, b, got)
	}
	if got, e := Less(bitsOf(a), bitsOf(b)); e != api.OK || got != (is && cmp < 0) {
		t.Fatalf("Less: %x, %x: %v, %d", a, b, got, e)
	}
}

func TestReals(t *testing.T) {
	for _, a := range edges() {
		for _, b := range edges() {
			holdReals(t, a, b)
		}
		for bit := range 64 {
			holdReals(t, a, a^1<<bit)
		}
	}
	r := rand.New(rand.NewSource(1))
	for range 50000 {
		a, b := r.Uint64(), r.Uint64()
		holdReals(t, a, b)
		holdReals(t, a, a)
		holdReals(t, a, a+1)
		holdReals(t, a+1, a)
		holdReals(t, a, a^1<<63)
	}
}

func TestSame(t *testing.T) {
	tree := func() api.Value {
		return api.Value{Kind: api.ValueRecord, Keys: []string{"a", "b"}, Items: []api.Value{
			list(whole(1), text("x"), float(1.5), boolean(1), null()),
			at("c", list(at("d", whole(2)))),
		}}
	}
	if !Same(tree(), tree()) {
		t.Error("a tree and itself")
	}
	for i, c := range []func(v *api.Value){
		func(v *api.Value) { v.Keys[0] = "A" },
		func(v *api.Value) { v.Keys[1] = "bb" },
		func(v *api.Value) { v.Items[0], v.Items[1] = v.Items[1], v.Items[0] },
		func(v *api.Value) { v.Items[0].Items[0].Int = 2 },
		func(v *api.Value) { v.Items[0].Items[0] = boolean(1) },
		func(v *api.Value) { v.Items[0].Items[0] = float(1) },
		func(v *api.Value) { v.Items[0].Items[1].Text = "X" },
		func(v *api.Value) { v.Items[0].Items[1].Text = "xx" },
		func(v *api.Value) { v.Items[0].Items[2].Bits++ },
		func(v *api.Value) { v.Items[0].Items[3].Int = 0 },
		func(v *api.Value) { v.Items[0].Items[4] = text("") },
		func(v *api.Value) { v.Items[0].Items = v.Items[0].Items[:4] },
		func(v *api.Value) { v.Items[0].Items = append(v.Items[0].Items, null()) },
		func(v *api.Value) { v.Items[0] = list() },
		func(v *api.Value) { v.Items[1].Keys[0] = "C" },
		func(v *api.Value) { v.Items[1].Items[0].Items[0].Keys[0] = "e" },
		func(v *api.Value) { v.Items[1].Items[0].Items[0].Items[0].Int = 3 },
		func(v *api.Value) { v.Items[1].Items[0].Items[0].Items[0].Text = "wrong" },
		func(v *api.Value) { v.Items, v.Keys = v.Items[:1], v.Keys[:1] },
	} {
		v := tree()
		c(&v)
		if Same(v, tree()) || Same(tree(), v) {
			t.Errorf("row %d", i)
		}
	}
	// A NaN deep in a tree, and zeros of either sign there.
	nan := list(at("a", bitsOf(infinity+1)))
	if Same(nan, nan) {
		t.Error("NaN in a tree")
	}
	if !Same(list(at("a", bitsOf(0))), list(at("a", bitsOf(1<<63)))) {
		t.Error("zeros in a tree")
	}
	if v := sized(1024); !Same(v, sized(1024)) || Same(v, sized(1023)) {
		t.Error("1024 values")
	}
}

func TestSameOfKinds(t *testing.T) {
	all := append(examples(), text("1"), text("0"), text("true"), float(-7), whole(1), list(list()), list(record()))
	for i, a := range all {
		for j, b := range all {
			want := i == j || i < 2 && j < 2
			if Same(a, b) != want {
				t.Errorf("%v, %v", a, b)
			}
		}
	}
	if !Same(list(), api.Value{Kind: api.ValueList, Items: []api.Value{}, Keys: []string{}}) {
		t.Error("an empty list and nil")
	}
}

// wantedSame reckons by itself whether two trees that may be are the same.
func wantedSame(a api.Value, b api.Value) bool {
	if a.Kind != b.Kind || len(a.Items) != len(b.Items) {
		return false
	}
	for i := range a.Items {
		if !wantedSame(a.Items[i], b.Items[i]) || len(a.Keys) > 0 && a.Keys[i] != b.Keys[i] {
			return false
		}
	}
	return a.Int == b.Int && a.Text == b.Text && math.Float64frombits(a.Bits) == math.Float64frombits(b.Bits)
}

func TestSameOfRandomTrees(t *testing.T) {
	r := rand.New(rand.NewSource(2))
	alikes, others := 0, 0
	for range 20000 {
		a := random(r, 4)
		b, _ := Get(a, nil)
		if !wantedMay(b) || !reflect.DeepEqual(a, b) {
			t.Fatalf("%v, %v", a, b)
		}
		if r.Intn(3) > 0 {
			turn(r, &b)
		}
		want := wantedMay(b) && wantedSame(a, b)
		if want {
			alikes++
		} else {
			others++
		}
		if Same(a, b) != want || Same(b, a) != want {
			t.Fatalf("%v, %v: %v", a, b, !want)
		}
	}
	if alikes < 1000 || others < 1000 {
		t.Errorf("%d alike, %d others", alikes, others)
	}
}

func TestLess(t *testing.T) {
	for _, rising := range [][]api.Value{
		{whole(-api.MaxInt), whole(-api.MaxInt + 1), whole(-10), whole(-9), whole(-1), whole(0), whole(1), whole(9), whole(10), whole(api.MaxInt - 1), whole(api.MaxInt)},
		{float(math.Inf(-1)), float(-math.MaxFloat64), float(-2), float(-1.5), float(-1), bitsOf(1<<63 | 1), float(0), bitsOf(1), bitsOf(2), float(0.5), float(1), bitsOf(math.Float64bits(1) + 1), float(2), float(10), float(math.MaxFloat64), float(math.Inf(1))},
		{text(""), text("\x00"), text("\x00\x00"), text("10"), text("9"), text("A"), text("Z"), text("a"), text("a\x00"), text("aa"), text("ab"), text("b"), text("\x7f"), text("\x80"), text("é"), text("\uffff"), text("\U0001F600"), text("\xff"), text("\xff\x00")},
	} {
		for i, a := range rising {
			for j, b := range rising {
				if got, e := Less(a, b); got != (i < j) || e != api.OK {
					t.Errorf("%v, %v: %v, %d", a, b, got, e)
				}
			}
		}
	}
	long := strings.Repeat("x", api.MaxText-1)
	if is, e := Less(text(long+"a"), text(long+"b")); !is || e != api.OK {
		t.Error("long texts")
	}
	if is, e := Less(text(long), text(long+"\x00")); !is || e != api.OK {
		t.Error("the beginning of a long text")
	}
}

func TestLessOfOtherKinds(t *testing.T) {
	for _, a := range examples() {
		for _, b := range examples() {
			fine := a.Kind == b.Kind && (a.Kind == api.ValueInt || a.Kind == api.ValueReal || a.Kind == api.ValueText)
			got, e := Less(a, b)
			if fine != (e == api.OK) || !fine && (got || e != api.ErrValueType) {
				t.Errorf("%v, %v: %v, %d", a, b, got, e)
			}
		}
	}
}

func TestGet(t *testing.T) {
	in := api.Value{Kind: api.ValueRecord, Keys: []string{"", "b"}[1:], Items: []api.Value{text("x")}}
	v := api.Value{Kind: api.ValueRecord, Keys: []string{"A", "a", "aa", "l", "n", "é", "\xff"}, Items: []api.Value{whole(1), in, whole(2), list(in), null(), boolean(1), float(0.5)}}
	for i, c := range []struct {
		path []string
		want api.Value
		e    api.Errno
	}{
		{nil, v, api.OK},
		{[]string{}, v, api.OK},
		{[]string{"A"}, whole(1), api.OK},
		{[]string{"a"}, in, api.OK},
		{[]string{"aa"}, whole(2), api.OK},
		{[]string{"l"}, list(in), api.OK},
		{[]string{"n"}, null(), api.OK},
		{[]string{"é"}, boolean(1), api.OK},
		{[]string{"\xff"}, float(0.5), api.OK},
		{[]string{"a", "b"}, text("x"), api.OK},
		{[]string{""}, null(), api.ErrValueKey},
		{[]string{"B"}, null(), api.ErrValueKey},
		{[]string{"aaa"}, null(), api.ErrValueKey},
		{[]string{"\xff\xff"}, null(), api.ErrValueKey},
		{[]string{strings.Repeat("a", 1<<16)}, null(), api.ErrValueKey},
		{[]string{"a", "a"}, null(), api.ErrValueKey},
		{[]string{"a", ""}, null(), api.ErrValueKey},
		{[]string{"b", "b"}, null(), api.ErrValueKey},
		{[]string{"a", "a", "a"}, null(), api.ErrValueKey},
		{[]string{"n", "a"}, null(), api.ErrValueType},
		{[]string{"A", "a"}, null(), api.ErrValueType},
		{[]string{"é", "a"}, null(), api.ErrValueType},
		{[]string{"\xff", "a"}, null(), api.ErrValueType},
		{[]string{"a", "b", "b"}, null(), api.ErrValueType},
		{[]string{"l", "b"}, null(), api.ErrValueType},
		{[]string{"l", "0"}, null(), api.ErrValueType},
		{[]string{"a", "b", "b", "b", "b", "b", "b", "b"}, null(), api.ErrValueType},
		{[]string{"b", "b", "b", "b", "b", "b", "b", "b"}, null(), api.ErrValueKey},
		{[]string{"a", "b", "b", "b", "b", "b", "b", "b", "b"}, null(), api.ErrValueForm},
		{[]string{"b", "b", "b", "b", "b", "b", "b", "b", "b"}, null(), api.ErrValueForm},
		{make([]string, 1<<16), null(), api.ErrValueForm},
	} {
		if got, e := Get(v, c.path); e != c.e || !reflect.DeepEqual(got, c.want) {
			t.Errorf("row %d: %v, %d", i, got, e)
		}
	}
	for _, v := range examples() {
		got, e := Get(v, nil)
		if e != api.OK || fmt.Sprint(got) != fmt.Sprint(v) {
			t.Errorf("%v: %v, %d", v, got, e)
		}
		want := api.Errno(api.ErrValueType)
		if v.Kind == api.ValueRecord {
			want = api.ErrValueKey
		}
		if got, e := Get(v, []string{"q"}); e != want || !isZero(got) {
			t.Errorf("%v: %v, %d", v, got, e)
		}
	}
}

func TestGetByLongPaths(t *testing.T) {
	names := slices.Repeat([]string{"a"}, 9)
	v := deep(api.MaxDeep, "R", text("x"))
	for n := range 10 {
		want, e := deep(api.MaxDeep-n, "R", text("x")), api.Errno(api.OK)
		if n == 8 {
			want, e = null(), api.ErrValueType
		}
		if n == 9 {
			want, e = null(), api.ErrValueForm
		}
		if got, f := Get(v, names[:n]); f != e || !reflect.DeepEqual(got, want) {
			t.Errorf("%d names: %v, %d", n, got, f)
		}
	}
	if got, e := Get(deep(api.MaxDeep, "R", record()), names[:8]); e != api.ErrValueKey || !isZero(got) {
		t.Errorf("%v, %d", got, e)
	}
	// Each of the keys of a full record is found.
	full := record(rows(api.MaxItems)...)
	for i := range full.Items {
		full.Items[i] = whole(i)
	}
	for i, key := range full.Keys {
		if got, e := Get(full, []string{key}); e != api.OK || got.Int != i || got.Kind != api.ValueInt {
			t.Errorf("%s: %v, %d", key, got, e)
		}
	}
}

// spoil overwrites each list of a tree, its spare room too.
func spoil(v *api.Value) {
	for i := range v.Items {
		spoil(&v.Items[i])
	}
	items, keys := v.Items[:cap(v.Items)], v.Keys[:cap(v.Keys)]
	for i := range items {
		items[i] = text("spoilt")
	}
	for i := range keys {
		keys[i] = "spoilt"
	}
}

func TestAnswersShareNothing(t *testing.T) {
	make1 := func() api.Value {
		one := list(whole(1), text("x"))
		one.Items = append(make([]api.Value, 0, 8), one.Items...)
		// The same list stands at three places of the argument.
		v := api.Value{Kind: api.ValueRecord, Keys: append(make([]string, 0, 8), "a", "b", "c", "d"), Items: append(make([]api.Value, 0, 8), one, one, at("k", one), list())}
		v.Items[3].Items = make([]api.Value, 0, 4)
		return v
	}
	v := make1()
	whole1, _ := Get(v, nil)
	again, _ := Get(v, nil)
	part, _ := Get(v, []string{"a"})
	spoil(&whole1)
	if !reflect.DeepEqual(v, make1()) || !reflect.DeepEqual(again.Items[:3], make1().Items[:3]) || !reflect.DeepEqual(part, make1().Items[0]) {
		t.Error("an answer shares with the argument or another answer")
	}
	if got := v.Items[:5][4]; !isZero(got) {
		t.Error("spare room of the argument")
	}
	if got := v.Items[3].Items[:1][0]; !isZero(got) {
		t.Error("spare room of an empty list of the argument")
	}
	spoil(&again.Items[0])
	if !reflect.DeepEqual(again.Items[1], make1().Items[1]) || !reflect.DeepEqual(again.Items[2], make1().Items[2]) {
		t.Error("two lists of one answer share")
	}
	spoil(&v)
	if !reflect.DeepEqual(part, make1().Items[0]) {
		t.Error("an answer hangs on the argument")
	}
}

func TestArgumentsStay(t *testing.T) {
	r := rand.New(rand.NewSource(3))
	for range 2000 {
		a, b := random(r, 4), random(r, 4)
		if r.Intn(2) == 0 {
			turn(r, &a)
		}
		before := fmt.Sprintf("%#v %#v", a, b)
		path := []string{"a", "b"}
		May(a)
		True(a)
		Text(a)
		Same(a, b)
		Same(a, a)
		Less(a, b)
		Get(a, path[:1])
		if fmt.Sprintf("%#v %#v", a, b) != before || path[0] != "a" || path[1] != "b" {
			t.Fatal(before)
		}
	}
}

func TestAtOneTime(t *testing.T) {
	v, w := sized(1024), deep(8, "R", text("x"))
	var all sync.WaitGroup
	for range 8 {
		all.Go(func() {
			for range 50 {
				got, e := Get(w, []string{"a", "a"})
				if !May(v) || !True(v) || !Same(v, v) || e != api.OK || !Same(got, deep(6, "R", text("x"))) {
					t.Error("at one time")
				}
			}
		})
	}
	all.Wait()
}
