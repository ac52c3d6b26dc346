package plain

import (
	"math"
	"slices"
	"testing"

	"hedgewright/api"
)

// full is a map with n keys: 0, 10, 20 and so on, each with its key's negative as Value.
func full(n int) []api.Pair {
	l := make([]api.Pair, n)
	for i := range l {
		l[i] = api.Pair{Key: i * 10, Value: -i * 10}
	}
	return l
}

func op(kind, key, value int) api.Op {
	return api.Op{Kind: kind, Key: key, Value: value}
}

// P1.1

func TestCheck(t *testing.T) {
	unordered := full(api.MaxKeys + 1)
	unordered[0].Key = -1
	cases := []struct {
		name string
		l    []api.Pair
		want api.Errno
	}{
		{"nil", nil, api.OK},
		{"empty", []api.Pair{}, api.OK},
		{"least and greatest key", []api.Pair{{Key: 0}, {Key: api.MaxKey}}, api.OK},
		{"neighbours", []api.Pair{{Key: 4}, {Key: 5}, {Key: 6}}, api.OK},
		{"any values", []api.Pair{{Key: 1, Value: math.MaxInt}, {Key: 2, Value: math.MinInt}}, api.OK},
		{"as many as may be", full(api.MaxKeys), api.OK},
		{"one too many", full(api.MaxKeys + 1), api.ErrLarge},
		{"large is told ahead of form", unordered, api.ErrLarge},
		{"falling", []api.Pair{{Key: 2}, {Key: 1}}, api.ErrForm},
		{"falling at the end", []api.Pair{{Key: 1}, {Key: 5}, {Key: 4}}, api.ErrForm},
		{"twice", []api.Pair{{Key: 1}, {Key: 7}, {Key: 7, Value: 1}}, api.ErrForm},
		{"below 0", []api.Pair{{Key: -1}}, api.ErrForm},
		{"far below 0", []api.Pair{{Key: math.MinInt}, {Key: 3}}, api.ErrForm},
		{"above MaxKey", []api.Pair{{Key: api.MaxKey + 1}}, api.ErrForm},
		{"far above MaxKey", []api.Pair{{Key: 3}, {Key: math.MaxInt}}, api.ErrForm},
	}
	for _, c := range cases {
		if got := Check(c.l); got != c.want {
			t.Errorf("%s: %v, want %v", c.name, got, c.want)
		}
	}
}

// P1.2, P1.3

type doCase struct {
	name string
	l    []api.Pair
	o    api.Op
	want []api.Pair
	ans  api.Ans
}

func testDo(t *testing.T, cases []doCase) {
	t.Helper()
	for _, c := range cases {
		got, ans := Do(c.l, c.o)
		if !slices.Equal(got, c.want) || ans != c.ans {
			t.Errorf("%s: %v %v, want %v %v", c.name, got, ans, c.want, c.ans)
		}
	}
}

func TestDoTellsErrorOfCheck(t *testing.T) {
	for kind := api.KPut - 1; kind <= api.KNth+1; kind++ {
		for _, key := range []int{-1, 3} {
			testDo(t, []doCase{
				{"form", []api.Pair{{Key: 3}, {Key: 3}}, op(kind, key, 9), nil, api.Ans{Err: api.ErrForm}},
				{"large", full(api.MaxKeys + 1), op(kind, key, 9), nil, api.Ans{Err: api.ErrLarge}},
			})
		}
	}
}

func TestDoTellsErrorOfKind(t *testing.T) {
	l := full(3)
	for _, kind := range []int{math.MinInt, -1, 0, 8, math.MaxInt} {
		testDo(t, []doCase{{"kind", l, op(kind, 10, 9), l, api.Ans{Err: api.ErrArg}}})
	}
}

func TestDoTellsErrorOfKey(t *testing.T) {
	l := full(3)
	for _, kind := range []int{api.KPut, api.KGet, api.KCut, api.KNext, api.KPrev} {
		for _, key := range []int{math.MinInt, -1, api.MaxKey + 1, math.MaxInt} {
			testDo(t, []doCase{{"key", l, op(kind, key, 9), l, api.Ans{Err: api.ErrArg}}})
		}
	}
	most := full(api.MaxKeys)
	testDo(t, []doCase{{"key ahead of large", most, op(api.KPut, -1, 9), most, api.Ans{Err: api.ErrArg}}})
}

func TestPut(t *testing.T) {
	most := full(api.MaxKeys)
	changed := full(api.MaxKeys)
	changed[199].Value = 5
	testDo(t, []doCase{
		{"into nothing", nil, op(api.KPut, 4, 40), []api.Pair{{Key: 4, Value: 40}}, api.Ans{}},
		{"least key", full(2), op(api.KPut, 0, 7), []api.Pair{{Key: 0, Value: 7}, {Key: 10, Value: -10}}, api.Ans{Is: true}},
		{"greatest key", full(1), op(api.KPut, api.MaxKey, 7), []api.Pair{{}, {Key: api.MaxKey, Value: 7}}, api.Ans{}},
		{"ahead", []api.Pair{{Key: 5}}, op(api.KPut, 4, 7), []api.Pair{{Key: 4, Value: 7}, {Key: 5}}, api.Ans{}},
		{"between", full(2), op(api.KPut, 5, 7), []api.Pair{{}, {Key: 5, Value: 7}, {Key: 10, Value: -10}}, api.Ans{}},
		{"behind", full(2), op(api.KPut, 15, 7), []api.Pair{{}, {Key: 10, Value: -10}, {Key: 15, Value: 7}}, api.Ans{}},
		{"least value", nil, op(api.KPut, 4, math.MinInt), []api.Pair{{Key: 4, Value: math.MinInt}}, api.Ans{}},
		{"new one too many", most, op(api.KPut, 5, 7), most, api.Ans{Err: api.ErrLarge}},
		{"new one too many, behind", most, op(api.KPut, 5000, 7), most, api.Ans{Err: api.ErrLarge}},
		{"old one of most", most, op(api.KPut, 1990, 5), changed, api.Ans{Is: true}},
		{"last that may come", full(199), op(api.KPut, 1990, -1990), most, api.Ans{}},
	})
}

func TestGet(t *testing.T) {
	l := full(3)
	testDo(t, []doCase{
		{"of nothing", nil, op(api.KGet, 0, 9), nil, api.Ans{}},
		{"first", l, op(api.KGet, 0, 9), l, api.Ans{Is: true}},
		{"last", l, op(api.KGet, 20, 9), l, api.Ans{Value: -20, Is: true}},
		{"between", l, op(api.KGet, 15, 9), l, api.Ans{}},
		{"behind", l, op(api.KGet, api.MaxKey, 9), l, api.Ans{}},
	})
}

func TestCut(t *testing.T) {
	l := full(3)
	testDo(t, []doCase{
		{"of nothing", nil, op(api.KCut, 0, 9), nil, api.Ans{}},
		{"first", l, op(api.KCut, 0, 9), []api.Pair{{Key: 10, Value: -10}, {Key: 20, Value: -20}}, api.Ans{Is: true}},
		{"middle", l, op(api.KCut, 10, 9), []api.Pair{{}, {Key: 20, Value: -20}}, api.Ans{Value: -10, Is: true}},
		{"last", l, op(api.KCut, 20, 9), full(2), api.Ans{Value: -20, Is: true}},
		{"only one", full(1), op(api.KCut, 0, 9), nil, api.Ans{Is: true}},
		{"not there", l, op(api.KCut, 11, 9), l, api.Ans{}},
		{"behind", l, op(api.KCut, api.MaxKey, 9), l, api.Ans{}},
	})
}

func TestNextAndPrev(t *testing.T) {
	l := full(3)
	ends := []api.Pair{{Key: 0, Value: 1}, {Key: api.MaxKey, Value: 2}}
	testDo(t, []doCase{
		{"next of nothing", nil, op(api.KNext, 0, 9), nil, api.Ans{}},
		{"next of a key", l, op(api.KNext, 0, 9), l, api.Ans{Key: 10, Value: -10, Is: true}},
		{"next of a gap", l, op(api.KNext, 11, 9), l, api.Ans{Key: 20, Value: -20, Is: true}},
		{"next just below", l, op(api.KNext, 9, 9), l, api.Ans{Key: 10, Value: -10, Is: true}},
		{"next of the last", l, op(api.KNext, 20, 9), l, api.Ans{}},
		{"next to the greatest", ends, op(api.KNext, api.MaxKey-1, 9), ends, api.Ans{Key: api.MaxKey, Value: 2, Is: true}},
		{"next of the greatest", ends, op(api.KNext, api.MaxKey, 9), ends, api.Ans{}},
		{"prev of nothing", nil, op(api.KPrev, 5, 9), nil, api.Ans{}},
		{"prev of a key", l, op(api.KPrev, 20, 9), l, api.Ans{Key: 10, Value: -10, Is: true}},
		{"prev of a gap", l, op(api.KPrev, 19, 9), l, api.Ans{Key: 10, Value: -10, Is: true}},
		{"prev behind all", l, op(api.KPrev, api.MaxKey, 9), l, api.Ans{Key: 20, Value: -20, Is: true}},
		{"prev is 0", ends, op(api.KPrev, 1, 9), ends, api.Ans{Key: 0, Value: 1, Is: true}},
		{"prev of the first", l, op(api.KPrev, 0, 9), l, api.Ans{}},
	})
}

func TestCount(t *testing.T) {
	l := full(3)
	for _, c := range []struct{ key, want int }{
		{math.MinInt, 0}, {-1, 0}, {0, 0}, {1, 1}, {10, 1}, {11, 2}, {20, 2}, {21, 3},
		{api.MaxKey + 1, 3}, {math.MaxInt, 3},
	} {
		testDo(t, []doCase{{"count", l, op(api.KCount, c.key, 9), l, api.Ans{Value: c.want, Is: true}}})
	}
	testDo(t, []doCase{{"count of nothing", nil, op(api.KCount, 5, 9), nil, api.Ans{Is: true}}})
}

func TestNth(t *testing.T) {
	l := full(3)
	testDo(t, []doCase{
		{"of nothing", nil, op(api.KNth, 0, 9), nil, api.Ans{}},
		{"first", l, op(api.KNth, 0, 9), l, api.Ans{Is: true}},
		{"last", l, op(api.KNth, 2, 9), l, api.Ans{Key: 20, Value: -20, Is: true}},
		{"behind", l, op(api.KNth, 3, 9), l, api.Ans{}},
		{"far behind", l, op(api.KNth, math.MaxInt, 9), l, api.Ans{}},
		{"below 0", l, op(api.KNth, -1, 9), l, api.Ans{}},
		{"far below 0", l, op(api.KNth, math.MinInt, 9), l, api.Ans{}},
	})
}

// P1.4

func TestRunOfNothing(t *testing.T) {
	for _, ops := range [][]api.Op{nil, {}} {
		if l, a, err := Run(ops); len(l) != 0 || len(a) != 0 || err != api.OK {
			t.Error(l, a, err)
		}
	}
}

func TestRunGoesOnBehindErrors(t *testing.T) {
	l, a, err := Run([]api.Op{
		op(api.KNext, 0, 0), op(api.KPut, 3, 30), op(0, 3, 0), op(api.KPut, -1, 0),
		op(api.KPut, 1, 10), op(api.KNext, 1, 0), op(api.KCut, 3, 0), op(api.KNext, 1, 0),
	})
	want := []api.Ans{
		{}, {}, {Err: api.ErrArg}, {Err: api.ErrArg},
		{}, {Key: 3, Value: 30, Is: true}, {Value: 30, Is: true}, {},
	}
	if !slices.Equal(l, []api.Pair{{Key: 1, Value: 10}}) || !slices.Equal(a, want) || err != api.OK {
		t.Error(l, a, err)
	}
}

func TestRunAtItsLimits(t *testing.T) {
	ops := make([]api.Op, api.MaxOps)
	for i := range ops {
		ops[i] = op(api.KPut, i*10, -i*10)
	}
	l, a, err := Run(ops)
	if !slices.Equal(l, full(api.MaxKeys)) || len(a) != api.MaxOps || err != api.OK {
		t.Error(l, len(a), err)
	}
	for i, got := range a {
		want := api.Ans{}
		if i >= api.MaxKeys {
			want.Err = api.ErrLarge
		}
		if got != want {
			t.Error(i, got, want)
		}
	}
	if l, a, err := Run(append(ops, op(api.KCount, 0, 0))); len(l) != 0 || len(a) != 0 || err != api.ErrLarge {
		t.Error(l, a, err)
	}
}

// model answers as the chapter says, with a Go map instead of a list.
func model(m map[int]int, o api.Op) api.Ans {
	keys := make([]int, 0, len(m))
	for key := range m {
		keys = append(keys, key)
	}
	slices.Sort(keys)
	pair := func(key int) api.Ans { return api.Ans{Key: key, Value: m[key], Is: true} }
	old, had := m[o.Key]
	switch o.Kind {
	case api.KPut:
		m[o.Key] = o.Value
		return api.Ans{Is: had}
	case api.KGet:
		return api.Ans{Value: old, Is: had}
	case api.KCut:
		delete(m, o.Key)
		return api.Ans{Value: old, Is: had}
	case api.KNext:
		for _, key := range keys {
			if key > o.Key {
				return pair(key)
			}
		}
	case api.KPrev:
		for _, key := range slices.Backward(keys) {
			if key < o.Key {
				return pair(key)
			}
		}
	case api.KCount:
		count := 0
		for _, key := range keys {
			if key < o.Key {
				count++
			}
		}
		return api.Ans{Value: count, Is: true}
	case api.KNth:
		if o.Key < len(keys) {
			return pair(keys[o.Key])
		}
	}
	return api.Ans{}
}

// mixed makes ops from a fixed sequence, so that a failure comes again.
func mixed(seed uint32, n int) []api.Op {
	next := func(bound int) int {
		seed = seed*1664525 + 1013904223
		return int(seed>>8) % bound
	}
	ops := make([]api.Op, n)
	for i := range ops {
		ops[i] = op(1+next(7), next(30), next(1000)-500)
	}
	return ops
}

func TestRunAgreesWithModel(t *testing.T) {
	for seed := range uint32(200) {
		ops := mixed(seed, api.MaxOps)
		l, a, err := Run(ops)
		m := map[int]int{}
		for i, o := range ops {
			if want := model(m, o); a[i] != want {
				t.Fatal(seed, i, o, a[i], want)
			}
		}
		if err != api.OK || Check(l) != api.OK || len(l) != len(m) {
			t.Fatal(seed, l, m, err)
		}
		for _, p := range l {
			if value, has := m[p.Key]; !has || value != p.Value {
				t.Fatal(seed, p, m)
			}
		}
	}
}

// P1

func TestNothingPanics(t *testing.T) {
	numbers := []int{math.MinInt, math.MinInt + 1, -1, 0, 1, 7, 8, 199, 200, 201,
		api.MaxKey, api.MaxKey + 1, math.MaxInt - 1, math.MaxInt}
	lists := [][]api.Pair{nil, {}, full(1), full(200), full(201), make([]api.Pair, 2),
		{{Key: math.MaxInt}, {Key: math.MinInt}}, {{Key: api.MaxKey, Value: math.MinInt}}}
	var ops []api.Op
	for kind := -1; kind <= 9; kind++ {
		for _, number := range numbers {
			ops = append(ops, op(kind, number, number), op(number, kind, number))
		}
	}
	for _, l := range lists {
		Check(l)
		for _, o := range ops {
			Do(l, o)
		}
	}
	for part := range slices.Chunk(ops, api.MaxOps) {
		Run(part)
	}
	Run(make([]api.Op, 100_000))
}

// P2

// withRoom has the items of l, and room behind them that is filled with spare.
func withRoom[T any](l []T, spare T) []T {
	wide := slices.Clone(l)
	for range 5 {
		wide = append(wide, spare)
	}
	return wide[:len(l)]
}

// spoil writes over all of l, spare room included.
func spoil[T any](l []T, junk T) {
	l = l[:cap(l)]
	for i := range l {
		l[i] = junk
	}
}

func TestMemoryOfDo(t *testing.T) {
	junk := api.Pair{Key: -77, Value: -77}
	for _, start := range [][]api.Pair{{}, full(1), full(3), full(200), {{Key: 2}, {Key: 1}}, full(201)} {
		for kind := 0; kind <= 8; kind++ {
			for _, key := range []int{-1, 0, 5, 10, 20, 25, api.MaxKey + 1} {
				l := withRoom(start, api.Pair{Key: 77, Value: 77})
				whole := l[:cap(l)]
				ahead := slices.Clone(whole)
				o := op(kind, key, 9)
				got, ans := Do(l, o)
				kept := slices.Clone(got)
				if !slices.Equal(whole, ahead) {
					t.Fatal("changed what was handed in", o)
				}
				spoil(got, junk)
				if !slices.Equal(whole, ahead) {
					t.Fatal("answered what was handed in", o)
				}
				if again, ansAgain := Do(l, o); !slices.Equal(again, kept) || ansAgain != ans {
					t.Fatal("kept something", o)
				}
			}
		}
	}
}

func TestMemoryOfCheck(t *testing.T) {
	for _, start := range [][]api.Pair{full(3), {{Key: 2}, {Key: 1}}, full(201)} {
		l := withRoom(start, api.Pair{Key: 77, Value: 77})
		ahead := slices.Clone(l[:cap(l)])
		err := Check(l)
		if !slices.Equal(l[:cap(l)], ahead) || Check(l) != err {
			t.Error(start)
		}
	}
}

func TestMemoryOfRun(t *testing.T) {
	for seed := range uint32(20) {
		ops := withRoom(mixed(seed, 100), op(77, 77, 77))
		whole := ops[:cap(ops)]
		ahead := slices.Clone(whole)
		l, a, err := Run(ops)
		pairs, answers := slices.Clone(l), slices.Clone(a)
		spoil(l, api.Pair{Key: -77, Value: -77})
		spoil(a, api.Ans{Err: 77, Key: 77, Value: 77})
		if !slices.Equal(whole, ahead) {
			t.Fatal("changed what was handed in")
		}
		l, a, errAgain := Run(ops)
		if !slices.Equal(l, pairs) || !slices.Equal(a, answers) || err != errAgain {
			t.Fatal("kept something")
		}
	}
}
