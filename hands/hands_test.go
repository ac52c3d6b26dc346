package hands

import (
	"math"
	"slices"
	"testing"

	"hedgewright/api"
	"hedgewright/plain"
)

func add(key int) api.Deed { return api.Deed{Kind: api.DAdd, Key: key} }
func cut(key int) api.Deed { return api.Deed{Kind: api.DCut, Key: key} }
func has(key int) api.Deed { return api.Deed{Kind: api.DHas, Key: key} }

// each has one deed for each hand.
func each(deeds ...api.Deed) [][]api.Deed {
	var progs [][]api.Deed
	for _, d := range deeds {
		progs = append(progs, []api.Deed{d})
	}
	return progs
}

func allAlgos() []int { return []int{api.HLock, api.HLazy, api.HMark, api.HNaive} }

func allKinds() []int { return []int{api.DAdd, api.DCut, api.DHas} }

func same(a, b api.Told) bool {
	return slices.Equal(a.Done, b.Done) && slices.Equal(a.Left, b.Left)
}

// keysOf has the keys whose bits are set.
func keysOf(bits int) []int {
	var keys []int
	for key := range 10 {
		if bits>>key&1 == 1 {
			keys = append(keys, key)
		}
	}
	return keys
}

// dice are numbers that follow from a seed.
type dice uint32

func (d *dice) next(bound int) int {
	*d = *d*1664525 + 1013904223
	return int(*d>>8) % bound
}

// some has a start, progs and an order that follow from seed; keys are below spread.
func some(seed uint32, spread, long int) ([]int, [][]api.Deed, []int) {
	d := dice(seed)
	d.next(2)
	start := keysOf(d.next(1 << spread))
	progs := make([][]api.Deed, d.next(maxHands+1))
	for i := range progs {
		for range d.next(maxDeeds + 1) {
			progs[i] = append(progs[i], api.Deed{Kind: 1 + d.next(3), Key: d.next(spread)})
		}
	}
	order := make([]int, d.next(long+1))
	for i := range order {
		order[i] = d.next(6) - 1
	}
	if seed%3 == 0 { // one hand has many steps, then another one
		slices.Sort(order[:len(order)/2])
	}
	return start, progs, order
}

// told is what Run tells, where it is no error.
func toldOf(t *testing.T, algo int, start []int, progs [][]api.Deed, order []int) api.Told {
	t.Helper()
	told, err := Run(algo, start, progs, order)
	if err != api.OK {
		t.Fatal(algo, start, progs, order, err)
	}
	return told
}

// holds compares what Run tells with the model, and with one deed behind the other.
func holds(t *testing.T, algo int, start []int, progs [][]api.Deed, order []int) {
	t.Helper()
	told := toldOf(t, algo, start, progs, order)
	want := modelRun(algo, start, progs, order, 4000)
	if !same(told, want) {
		t.Fatalf("algo %d, start %v, progs %v, order %v: %v, want %v", algo, start, progs, order, told, want)
	}
	if algo != api.HNaive && !behindEachOther(start, progs, told) {
		t.Fatalf("algo %d, start %v, progs %v, order %v: %v, not as one behind the other", algo, start, progs, order, told)
	}
}

// scene is one whose steps were counted by hand.
type scene struct {
	name  string
	start []int
	progs [][]api.Deed
	order []int
	done  []api.Done
	left  []int
}

func play(t *testing.T, algo int, scenes []scene) {
	t.Helper()
	for _, s := range scenes {
		told, err := Run(algo, s.start, s.progs, s.order)
		if !same(told, api.Told{Done: s.done, Left: s.left}) || err != api.OK {
			t.Errorf("%s: %v %v, want %v %v", s.name, told, err, s.done, s.left)
		}
	}
}

// alone plays one deed of one hand, for each start, and compares how many steps it has.
func alone(t *testing.T, algo int, steps func(kind, less int, there bool) int) {
	t.Helper()
	for bits := range 1 << 10 {
		for key := range 10 {
			for _, kind := range allKinds() {
				less, there := len(keysOf(bits&(1<<key-1))), bits>>key&1 == 1
				is, behind := doAlone(api.Deed{Kind: kind, Key: key}, uint(bits))
				want := api.Told{Done: []api.Done{{End: steps(kind, less, there) - 1, Is: is}}, Left: keysOf(int(behind))}
				told := toldOf(t, algo, keysOf(bits), each(api.Deed{Kind: kind, Key: key}), nil)
				if !same(told, want) {
					t.Fatal(algo, keysOf(bits), kind, key, told, want)
				}
			}
		}
	}
}

// P11.1

func TestRunRefuses(t *testing.T) {
	long := make([]int, api.MaxOrder+1)
	bad := each(api.Deed{})
	tooMany := make([][]api.Deed, 5)
	tooLong := [][]api.Deed{nil, {has(1), has(1), has(1), has(1), has(1)}}
	cases := []struct {
		name  string
		algo  int
		start []int
		progs [][]api.Deed
		order []int
		want  api.Errno
	}{
		{"algo 0", 0, nil, nil, nil, api.ErrArg},
		{"algo 5", 5, nil, nil, nil, api.ErrArg},
		{"algo -1", -1, nil, nil, nil, api.ErrArg},
		{"the least algo", math.MinInt, nil, nil, nil, api.ErrArg},
		{"the greatest algo", math.MaxInt, nil, nil, nil, api.ErrArg},
		{"an algo whose low bits are one", 1<<32 + 1, nil, nil, nil, api.ErrArg},
		{"the algo is told ahead of what is large", 0, nil, tooMany, long, api.ErrArg},
		{"the algo is told ahead of the form", 5, []int{10}, bad, nil, api.ErrArg},
		{"five hands", 1, nil, tooMany, nil, api.ErrLarge},
		{"far too many hands", 2, nil, make([][]api.Deed, 1000), nil, api.ErrLarge},
		{"five deeds", 3, nil, tooLong, nil, api.ErrLarge},
		{"far too many deeds", 4, nil, [][]api.Deed{make([]api.Deed, 1000)}, nil, api.ErrLarge},
		{"one number too many", 4, nil, nil, long, api.ErrLarge},
		{"far too many numbers", 1, nil, nil, make([]int, 100_000), api.ErrLarge},
		{"hands are told ahead of the form", 1, []int{2, 2}, slices.Concat(bad, bad, bad, bad, bad), nil, api.ErrLarge},
		{"deeds are told ahead of the form", 1, []int{-1}, [][]api.Deed{{{}}, make([]api.Deed, 5)}, nil, api.ErrLarge},
		{"the order is told ahead of the form", 1, []int{10}, bad, long, api.ErrLarge},
		{"one key twice", 1, []int{2, 2}, nil, nil, api.ErrForm},
		{"keys that fall", 2, []int{1, 3, 2}, nil, nil, api.ErrForm},
		{"the HEAD's key", 3, []int{-1}, nil, nil, api.ErrForm},
		{"the TAIL's key", 4, []int{8, 10}, nil, nil, api.ErrForm},
		{"far below", 1, []int{math.MinInt, 4}, nil, nil, api.ErrForm},
		{"far above", 1, []int{4, math.MaxInt}, nil, nil, api.ErrForm},
		{"a key whose low bits are one", 1, []int{4, 1<<32 + 5}, nil, nil, api.ErrForm},
		{"a long start", 1, make([]int, 1000), nil, nil, api.ErrForm},
		{"no kind", 1, nil, bad, nil, api.ErrForm},
		{"kind 4", 2, nil, each(add(1), api.Deed{Kind: 4, Key: 1}), nil, api.ErrForm},
		{"kind -1", 3, nil, [][]api.Deed{{add(1), cut(1), has(1), {Kind: -1, Key: 1}}}, nil, api.ErrForm},
		{"a kind whose low bits are one", 3, nil, each(api.Deed{Kind: 1<<32 + 1, Key: 1}), nil, api.ErrForm},
		{"the least kind", 3, nil, each(api.Deed{Kind: math.MinInt, Key: 1}), nil, api.ErrForm},
		{"the greatest kind", 3, nil, each(api.Deed{Kind: math.MaxInt, Key: 1}), nil, api.ErrForm},
		{"add -1", 1, nil, each(add(-1)), nil, api.ErrForm},
		{"cut -1", 2, nil, each(cut(-1)), nil, api.ErrForm},
		{"has -1", 3, nil, each(has(-1)), nil, api.ErrForm},
		{"add 10", 4, nil, each(add(10)), nil, api.ErrForm},
		{"cut 10", 1, nil, each(cut(10)), nil, api.ErrForm},
		{"has 10", 2, nil, each(has(10)), nil, api.ErrForm},
		{"the last deed of the last hand", 3, nil, [][]api.Deed{nil, nil, nil, {has(1), has(1), has(1), cut(math.MaxInt)}}, nil, api.ErrForm},
		{"the first deed of the first hand", 3, nil, [][]api.Deed{{add(math.MinInt), has(1)}, {has(1)}}, nil, api.ErrForm},
	}
	for _, c := range cases {
		told, err := Run(c.algo, c.start, c.progs, c.order)
		if told.Done != nil || told.Left != nil || err != c.want {
			t.Errorf("%s: %v %v, want %v", c.name, told, err, c.want)
		}
	}
}

func TestRunAtItsLimits(t *testing.T) {
	full := []api.Deed{add(0), cut(9), has(0), has(9)}
	for _, algo := range allAlgos() {
		told := toldOf(t, algo, keysOf(1<<10-1), [][]api.Deed{full, full, full, full}, make([]int, api.MaxOrder))
		if len(told.Done) != 16 || !slices.Equal(told.Left, keysOf(1<<9-1)) {
			t.Error(algo, told)
		}
	}
}

func TestRunOfNothing(t *testing.T) {
	for _, algo := range allAlgos() {
		for _, progs := range [][][]api.Deed{nil, {}, {nil}, {{}, nil, {}, nil}} {
			for _, order := range [][]int{nil, {}, {0, 1, 2, 3}, make([]int, api.MaxOrder)} {
				for _, start := range [][]int{nil, {}, {0}, {9}, {3, 7}, keysOf(1<<10 - 1)} {
					if told := toldOf(t, algo, start, progs, order); !same(told, api.Told{Left: start}) {
						t.Error(algo, start, progs, order, told)
					}
				}
			}
		}
	}
}

// The order is told by who has which steps: each DHas of 0 has so many here.
func TestOrder(t *testing.T) {
	steps := map[int]int{api.HLock: 3, api.HLazy: 2, api.HMark: 2, api.HNaive: 2}
	two := []api.Deed{has(0), has(0)}
	for _, algo := range []int{api.HLazy, api.HMark, api.HNaive} {
		play(t, algo, []scene{
			{"hand by hand", nil, each(has(0), has(0), has(0)), nil,
				[]api.Done{{Who: 0, Begin: 0, End: 3}, {Who: 1, Begin: 1, End: 4}, {Who: 2, Begin: 2, End: 5}}, nil},
			{"the last one first", nil, each(has(0), has(0), has(0)), []int{2, 1, 2},
				[]api.Done{{Who: 0, Begin: 3, End: 5}, {Who: 1, Begin: 1, End: 4}, {Who: 2, Begin: 0, End: 2}}, nil},
			{"who is no hand has no step", nil, each(has(0), has(0)), []int{-1, 2, 1, 4, math.MaxInt, math.MinInt, 1, 1<<32 + 0, 1 << 32},
				[]api.Done{{Who: 0, Begin: 2, End: 3}, {Who: 1, Begin: 0, End: 1}}, nil},
			{"who has no deeds left has no step", nil, [][]api.Deed{{has(0)}, nil, {has(0)}}, []int{1, 0, 0, 0, 0, 1, 0, 2, 2, 2, 0},
				[]api.Done{{Who: 0, Begin: 0, End: 1}, {Who: 2, Begin: 2, End: 3}}, nil},
			{"two deeds, one behind the other", nil, [][]api.Deed{two, two}, []int{1, 1, 1},
				[]api.Done{{Who: 0, Begin: 3, End: 5}, {Who: 0, Deed: 1, Begin: 6, End: 7}, {Who: 1, Begin: 0, End: 1}, {Who: 1, Deed: 1, Begin: 2, End: 4}}, nil},
			{"turns begin at hand 0, whoever was last", nil, [][]api.Deed{two, {has(0)}, two}, []int{0, 2, 2},
				[]api.Done{{Who: 0, Begin: 0, End: 3}, {Who: 0, Deed: 1, Begin: 6, End: 9}, {Who: 1, Begin: 4, End: 7}, {Who: 2, Begin: 1, End: 2}, {Who: 2, Deed: 1, Begin: 5, End: 8}}, nil},
		})
	}
	for _, algo := range allAlgos() {
		order := slices.Repeat([]int{1}, api.MaxOrder)
		told := toldOf(t, algo, nil, each(has(0), has(0)), order)
		n := steps[algo]
		if !slices.Equal(told.Done, []api.Done{{Who: 0, Begin: n, End: 2*n - 1}, {Who: 1, Begin: 0, End: n - 1}}) {
			t.Error(algo, told)
		}
	}
}

// MaxSteps is more than any prog can have, so the bound itself is tried by a lesser one.
func TestNoMoreStepsThanMay(t *testing.T) {
	for _, algo := range allAlgos() {
		w := ways()[algo]
		for seed := range uint32(200) {
			start, progs, order := some(seed, 4, 40)
			for most := range 60 {
				told, want := run(w, start, progs, order, most), modelRun(algo, start, progs, order, most)
				if !same(told, want) {
					t.Fatal(algo, start, progs, order, most, told, want)
				}
			}
		}
	}
	progs := each(cut(2), has(4))
	for most, want := range []api.Told{
		{Left: []int{2, 4}},
		{Done: []api.Done{{End: -1}}, Left: []int{2, 4}},
		{Done: []api.Done{{End: -1}}, Left: []int{2, 4}},
		{Done: []api.Done{{End: -1}}, Left: []int{4}}, // it has the MARK, and no answer yet
		{Done: []api.Done{{End: -1}, {Who: 1, Begin: 3, End: -1}}, Left: []int{4}},
		{Done: []api.Done{{End: 4, Is: true}, {Who: 1, Begin: 3, End: -1}}, Left: []int{4}},
		{Done: []api.Done{{End: 4, Is: true}, {Who: 1, Begin: 3, End: -1}}, Left: []int{4}},
		{Done: []api.Done{{End: 4, Is: true}, {Who: 1, Begin: 3, End: 6, Is: true}}, Left: []int{4}},
	} {
		if told := run(ways()[api.HMark], []int{2, 4}, progs, []int{0, 0, 0, 1}, most); !same(told, want) {
			t.Error(most, told, want)
		}
	}
}

// Somebody waits for as long as the order lasts, and all deeds have their END for all that.
func TestRunGoesOnBehindTheOrder(t *testing.T) {
	wait := slices.Concat([]int{0, 0}, slices.Repeat([]int{1}, api.MaxOrder-2))
	told := toldOf(t, api.HLock, nil, each(add(3), add(4)), wait)
	want := []api.Done{{Who: 0, Begin: 0, End: 500, Is: true}, {Who: 1, Begin: 2, End: 505, Is: true}}
	if !slices.Equal(told.Done, want) || !slices.Equal(told.Left, []int{3, 4}) {
		t.Error(told)
	}
	for _, algo := range allAlgos() {
		for seed := range uint32(300) {
			start, progs, order := some(seed, 1+int(seed)%10, api.MaxOrder)
			for _, d := range toldOf(t, algo, start, progs, order).Done {
				if d.End < d.Begin {
					t.Fatal(algo, start, progs, order, d)
				}
			}
		}
	}
}

// P11.2

func TestToldByHands(t *testing.T) {
	progs := [][]api.Deed{{add(1), has(1), cut(1), has(1)}, nil, {has(2)}, {cut(3), add(3)}}
	for _, algo := range allAlgos() {
		told := toldOf(t, algo, []int{2, 3}, progs, slices.Concat(slices.Repeat([]int{3}, 20), slices.Repeat([]int{2}, 20)))
		who := []api.Done{{Who: 0, Is: true}, {Who: 0, Deed: 1, Is: true}, {Who: 0, Deed: 2, Is: true}, {Who: 0, Deed: 3},
			{Who: 2, Is: true}, {Who: 3, Is: true}, {Who: 3, Deed: 1, Is: true}}
		for i, d := range told.Done {
			if d.Begin > d.End || i < 3 && d.End+1 != told.Done[i+1].Begin {
				t.Error(algo, told)
			}
			told.Done[i].Begin, told.Done[i].End = 0, 0
		}
		if !same(told, api.Told{Done: who, Left: []int{2, 3}}) {
			t.Error(algo, told)
		}
	}
}

// Behind the deed of hand 0 the node 2 is linked yet, with a MARK.
func TestLeftWithoutMarks(t *testing.T) {
	play(t, api.HMark, []scene{{"P goes first", []int{1, 2, 3}, each(cut(1), cut(2)), []int{1, 1, 1, 1, 0, 0, 0, 0, 1},
		[]api.Done{{Who: 0, Begin: 4, End: 7, Is: true}, {Who: 1, Begin: 0, End: 8, Is: true}}, []int{3}}})
}

// Where one hand does all of it, all algos answer as plain does.
func TestRunAsPlain(t *testing.T) {
	kinds := map[int]int{api.DAdd: api.KPut, api.DCut: api.KCut, api.DHas: api.KGet}
	for seed := range uint32(2000) {
		start, progs, order := some(seed, 1+int(seed)%10, 20)
		if len(progs) > 1 {
			progs = progs[:1]
		}
		var ops []api.Op
		for _, key := range start {
			ops = append(ops, api.Op{Kind: api.KPut, Key: key})
		}
		for _, d := range slices.Concat(progs...) {
			ops = append(ops, api.Op{Kind: kinds[d.Kind], Key: d.Key})
		}
		pairs, answers, _ := plain.Run(ops)
		for _, algo := range allAlgos() {
			told := toldOf(t, algo, start, progs, order)
			for i, d := range told.Done {
				is := answers[len(start)+i].Is
				if progs[0][i].Kind == api.DAdd {
					is = !is
				}
				if d.Is != is {
					t.Fatal(algo, start, progs, told, answers)
				}
			}
			if !slices.EqualFunc(told.Left, pairs, func(key int, p api.Pair) bool { return key == p.Key }) {
				t.Fatal(algo, start, progs, told, pairs)
			}
		}
	}
}

// P11.3

func TestLock(t *testing.T) {
	alone(t, api.HLock, func(kind, less int, there bool) int { return 3 + 2*less })
	play(t, api.HLock, []scene{
		{"one waits for HEAD", []int{2}, each(cut(2), cut(2)), []int{0, 0, 1, 1, 0},
			[]api.Done{{Who: 0, Begin: 0, End: 4, Is: true}, {Who: 1, Begin: 2, End: 7}}, nil},
		{"one waits for C", []int{2, 4}, each(has(4), has(2)), []int{0, 0, 0, 1, 1, 1, 0, 0, 1},
			// 0 has 2 till step 7, at which it is behind 4.
			[]api.Done{{Who: 0, Begin: 0, End: 7, Is: true}, {Who: 1, Begin: 3, End: 9, Is: true}}, []int{2, 4}},
		{"HEAD is free when 0 goes on", []int{2, 4}, each(add(5), add(1)), []int{0, 0, 1, 0, 1, 0, 0, 1},
			[]api.Done{{Who: 0, Begin: 0, End: 10, Is: true}, {Who: 1, Begin: 2, End: 9, Is: true}}, []int{1, 2, 4, 5}},
		{"both LOCKs are free in the end", nil, [][]api.Deed{{add(1), cut(1), add(1)}, {cut(1), add(1), has(1)}}, slices.Repeat([]int{0, 0, 0, 1, 1, 1}, 3),
			[]api.Done{{Who: 0, Begin: 0, End: 2, Is: true}, {Who: 0, Deed: 1, Begin: 6, End: 8}, {Who: 0, Deed: 2, Begin: 12, End: 14},
				{Who: 1, Begin: 3, End: 5, Is: true}, {Who: 1, Deed: 1, Begin: 9, End: 11, Is: true}, {Who: 1, Deed: 2, Begin: 15, End: 17, Is: true}}, []int{1}},
	})
}

// P11.4

func TestLazy(t *testing.T) {
	alone(t, api.HLazy, func(kind, less int, there bool) int {
		switch {
		case kind == api.DHas:
			return 2 + less
		case kind == api.DCut && there:
			return 5 + less
		}
		return 4 + less
	})
	play(t, api.HLazy, []scene{
		{"what has the MARK is not there", []int{2}, each(cut(2), has(2)), []int{0, 0, 0, 0, 1, 1},
			[]api.Done{{Who: 0, Begin: 0, End: 6, Is: true}, {Who: 1, Begin: 4, End: 5}}, nil},
		{"what has LOCKs is there", []int{2}, each(cut(2), has(2)), []int{0, 0, 0, 1, 1},
			[]api.Done{{Who: 0, Begin: 0, End: 6, Is: true}, {Who: 1, Begin: 3, End: 4, Is: true}}, nil},
		{"one waits for P, whose NEXT is another one then", nil, each(add(1), add(2)), []int{0, 0, 1, 1, 1, 0, 0},
			[]api.Done{{Who: 0, Begin: 0, End: 6, Is: true}, {Who: 1, Begin: 2, End: 14, Is: true}}, []int{1, 2}},
		{"one waits for C", []int{1, 2}, each(cut(1), cut(2)), []int{1, 1, 1, 0, 0, 0, 1, 1, 1},
			[]api.Done{{Who: 0, Begin: 3, End: 11, Is: true}, {Who: 1, Begin: 0, End: 8, Is: true}}, nil},
		{"P has the MARK", []int{1}, each(cut(1), add(2)), []int{1, 1, 0, 0, 0, 0, 0, 1, 1, 1},
			[]api.Done{{Who: 0, Begin: 2, End: 6, Is: true}, {Who: 1, Begin: 0, End: 13, Is: true}}, []int{2}},
		{"C is gone", []int{1}, each(cut(1), cut(1)), []int{1, 0, 0, 0, 0, 0, 1, 1, 1},
			[]api.Done{{Who: 0, Begin: 1, End: 5, Is: true}, {Who: 1, Begin: 0, End: 12}}, nil},
		{"both LOCKs are free behind what is not done", []int{1}, [][]api.Deed{{add(1), cut(0)}, {cut(0), add(1)}}, []int{0, 0, 0, 0, 1, 1, 1, 1},
			[]api.Done{{Who: 0, Begin: 0, End: 3}, {Who: 0, Deed: 1, Begin: 8, End: 14}, {Who: 1, Begin: 4, End: 7}, {Who: 1, Deed: 1, Begin: 9, End: 17}}, []int{1}},
	})
}

// P11.5

func TestMark(t *testing.T) {
	alone(t, api.HMark, func(kind, less int, there bool) int {
		switch {
		case kind == api.DCut && there:
			return 4 + less
		case kind == api.DAdd && !there:
			return 3 + less
		}
		return 2 + less
	})
	play(t, api.HMark, []scene{
		{"who passes a MARK links past it", []int{2}, each(cut(2), add(3)), []int{0, 0, 0, 1, 1, 1, 1},
			[]api.Done{{Who: 0, Begin: 0, End: 7, Is: true}, {Who: 1, Begin: 3, End: 6, Is: true}}, []int{3}},
		{"DHas passes a MARK", []int{2, 4}, each(cut(2), has(4)), []int{0, 0, 0, 1, 1, 1},
			[]api.Done{{Who: 0, Begin: 0, End: 6, Is: true}, {Who: 1, Begin: 3, End: 5, Is: true}}, []int{4}},
		{"what has the MARK is not there", []int{2, 4}, each(cut(2), has(2)), []int{0, 0, 0, 1, 1},
			[]api.Done{{Who: 0, Begin: 0, End: 5, Is: true}, {Who: 1, Begin: 3, End: 4}}, []int{4}},
		{"P and C have the MARK", []int{1, 2}, each(cut(1), cut(2), add(3)), []int{2, 2, 0, 0, 0, 1, 1, 1, 1, 2, 2, 2, 2, 2},
			[]api.Done{{Who: 0, Begin: 2, End: 14, Is: true}, {Who: 1, Begin: 5, End: 15, Is: true}, {Who: 2, Begin: 0, End: 13, Is: true}}, []int{3}},
		{"two cut one", []int{2}, each(cut(2), cut(2)), []int{0, 0, 1, 1, 0, 1},
			[]api.Done{{Who: 0, Begin: 0, End: 6, Is: true}, {Who: 1, Begin: 2, End: 8}}, nil},
		{"P has the MARK ahead of the new node", []int{1}, each(cut(1), add(2)), []int{1, 1, 1, 0, 0, 0, 1, 1, 1, 1, 1},
			[]api.Done{{Who: 0, Begin: 3, End: 11, Is: true}, {Who: 1, Begin: 0, End: 10, Is: true}}, []int{2}},
		{"two add behind one", nil, each(add(1), add(2)), []int{0, 0, 1, 1, 0, 1},
			[]api.Done{{Who: 0, Begin: 0, End: 4, Is: true}, {Who: 1, Begin: 2, End: 9, Is: true}}, []int{1, 2}},
		{"two add one", nil, each(add(1), add(1)), []int{0, 0, 1, 1, 0, 1},
			[]api.Done{{Who: 0, Begin: 0, End: 4, Is: true}, {Who: 1, Begin: 2, End: 7}}, []int{1}},
	})
}

func TestNaive(t *testing.T) {
	alone(t, api.HNaive, func(kind, less int, there bool) int {
		if kind == api.DHas || (kind == api.DCut) != there {
			return 2 + less
		}
		return 3 + less
	})
	play(t, api.HNaive, []scene{
		{"what one adds is lost", nil, each(add(1), add(2)), []int{0, 0, 1, 1, 0, 1},
			[]api.Done{{Who: 0, Begin: 0, End: 4, Is: true}, {Who: 1, Begin: 2, End: 5, Is: true}}, []int{2}},
		{"two add one", nil, each(add(1), add(1)), []int{0, 0, 1, 1, 0, 1},
			[]api.Done{{Who: 0, Begin: 0, End: 4, Is: true}, {Who: 1, Begin: 2, End: 5, Is: true}}, []int{1}},
		{"two cut one", []int{2}, each(cut(2), cut(2)), []int{0, 0, 1, 1},
			[]api.Done{{Who: 0, Begin: 0, End: 4, Is: true}, {Who: 1, Begin: 2, End: 5, Is: true}}, nil},
		{"what is added ahead of what is cut is lost", []int{2}, each(cut(2), add(1)), []int{0, 0, 1, 1, 1, 0},
			[]api.Done{{Who: 0, Begin: 0, End: 5, Is: true}, {Who: 1, Begin: 2, End: 4, Is: true}}, nil},
		{"what is cut stays", []int{1, 2}, each(cut(1), cut(2)), []int{0, 0, 1, 1, 1, 0, 1},
			[]api.Done{{Who: 0, Begin: 0, End: 5, Is: true}, {Who: 1, Begin: 2, End: 6, Is: true}}, []int{2}},
		{"what is cut is there for who is at it", []int{2}, each(cut(2), has(2)), []int{1, 0, 0, 0, 1},
			[]api.Done{{Who: 0, Begin: 1, End: 3, Is: true}, {Who: 1, Begin: 0, End: 4, Is: true}}, nil},
	})
}

func TestNaiveIsNotAsOneBehindTheOther(t *testing.T) {
	progs := each(add(1), add(2))
	told := toldOf(t, api.HNaive, nil, progs, []int{0, 0, 1, 1, 0, 1})
	if behindEachOther(nil, progs, told) {
		t.Error(told)
	}
}

// P11.3 to P11.5

// Two hands, one deed each, in all ways in which their first 12 steps can come.
func TestRunOfAllShortOrders(t *testing.T) {
	var deeds []api.Deed
	for _, kind := range allKinds() {
		for key := 1; key <= 3; key++ {
			deeds = append(deeds, api.Deed{Kind: kind, Key: key})
		}
	}
	for _, start := range [][]int{nil, {1}, {2}, {1, 2}, {1, 2, 3}} {
		for _, a := range deeds {
			for _, b := range deeds {
				for bits := range 1 << 12 {
					if bits%7 != (a.Key+b.Key+len(start))%7 {
						continue // a seventh of them will do
					}
					order := make([]int, 12)
					for i := range order {
						order[i] = bits >> i & 1
					}
					for _, algo := range allAlgos() {
						holds(t, algo, start, each(a, b), order)
					}
				}
			}
		}
	}
}

func TestRunAsTheModel(t *testing.T) {
	for seed := range uint32(12000) {
		start, progs, order := some(seed, []int{2, 3, 4, 10}[seed%4], []int{0, 30, 60, 120, api.MaxOrder}[seed%5])
		for _, algo := range allAlgos() {
			holds(t, algo, start, progs, order)
		}
	}
}

// P1

func TestNothingPanics(t *testing.T) {
	numbers := []int{math.MinInt, math.MinInt + 1, -2, -1, 0, 1, 2, 3, 4, 5, 9, 10, 11, 500, 4000, math.MaxInt - 1, math.MaxInt}
	for _, a := range numbers {
		for _, b := range numbers {
			for _, c := range numbers {
				for _, algo := range append(allAlgos(), a) {
					Run(algo, []int{b}, each(api.Deed{Kind: a, Key: c}), []int{a, b, c})
					Run(algo, []int{a, b, c}, each(add(a), cut(b), has(c)), []int{c})
					Run(algo, nil, [][]api.Deed{{{Kind: b, Key: c}, add(1)}, nil, {add(c), cut(c), has(c)}}, []int{a, b, c})
				}
			}
		}
	}
	for n := range 20 {
		for _, algo := range allAlgos() {
			Run(algo, make([]int, n), make([][]api.Deed, n), make([]int, 50*n))
			Run(algo, nil, [][]api.Deed{make([]api.Deed, n), slices.Repeat([]api.Deed{add(n)}, n)}, make([]int, 50*n))
		}
	}
}

// P2

// withRoom has what l has, and room behind it that is filled.
func withRoom[T any](l []T, junk T) []T {
	wide := slices.Clone(l)
	for range 25 {
		wide = append(wide, junk)
	}
	return wide[:len(l)]
}

// spoil writes over all of l, spare room included.
func spoil[T any](l []T, junk T) {
	l = l[:cap(l)]
	for i := range l {
		l[i] = junk
	}
}

func cloneAll(progs [][]api.Deed) [][]api.Deed {
	var all [][]api.Deed
	for _, prog := range progs[:cap(progs)] {
		all = append(all, slices.Clone(prog[:cap(prog)]))
	}
	return all
}

func TestMemory(t *testing.T) {
	for seed := range uint32(400) {
		start, progs, order := some(seed, 1+int(seed)%10, 60)
		for i, prog := range progs {
			progs[i] = withRoom(prog, cut(5))
		}
		start, progs, order = withRoom(start, 77), withRoom(progs, []api.Deed{add(5)}), withRoom(order, 1)
		startAhead, progsAhead, orderAhead := slices.Clone(start[:cap(start)]), cloneAll(progs), slices.Clone(order[:cap(order)])
		for _, algo := range allAlgos() {
			told := toldOf(t, algo, start, progs, order)
			want := api.Told{Done: slices.Clone(told.Done), Left: slices.Clone(told.Left)}
			spoil(told.Done, api.Done{Who: -7})
			spoil(told.Left, -7)
			if !slices.Equal(start[:cap(start)], startAhead) || !slices.Equal(order[:cap(order)], orderAhead) ||
				!slices.EqualFunc(cloneAll(progs), progsAhead, slices.Equal) {
				t.Fatal("changed what was handed in", algo, start, progs, order)
			}
			if again := toldOf(t, algo, start, progs, order); !same(again, want) {
				t.Fatal("kept something", algo, start, progs, order)
			}
		}
	}
}
