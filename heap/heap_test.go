package heap

import (
	"cmp"
	"math"
	"slices"
	"testing"

	"hedgewright/api"
	"hedgewright/grow"
	"hedgewright/plain"
	"hedgewright/shape"
)

// ranked has the keys 0, 10, 20 and so on, with these ranks.
func ranked(ranks ...int) []api.Pair {
	l := make([]api.Pair, len(ranks))
	for i, rank := range ranks {
		l[i] = api.Pair{Key: i * 10, Value: rank}
	}
	return l
}

// deep has the keys 0, 10, 20 and so on, with these Depths.
func deep(depths ...int) []api.Spot {
	l := make([]api.Spot, len(depths))
	for i, depth := range depths {
		l[i] = api.Spot{Key: i * 10, Depth: depth}
	}
	return l
}

// plenty has n keys from first on, with ranks that rise by step.
func plenty(first, n, step int) []api.Pair {
	l := make([]api.Pair, n)
	for i := range l {
		l[i] = api.Pair{Key: first + i, Value: i * step}
	}
	return l
}

// some has n keys with ranks from 0 to most, that follow from seed.
func some(seed uint32, n, most int) []api.Pair {
	next := func(bound int) int {
		seed = seed*1664525 + 1013904223
		return int(seed>>8) % bound
	}
	l := make([]api.Pair, n)
	key := next(3)
	for i := range l {
		l[i] = api.Pair{Key: key, Value: next(most+1) - most/2}
		key += 1 + next(50)
	}
	return l
}

func samples() [][]api.Pair {
	lists := [][]api.Pair{nil, {}, plenty(0, api.MaxKeys, 0), plenty(0, api.MaxKeys, 1),
		plenty(api.MaxKey-199, api.MaxKeys, -1), ranked(math.MaxInt, math.MinInt, 0, math.MaxInt, math.MinInt)}
	for seed := range uint32(150) {
		lists = append(lists, some(seed, int(seed), []int{0, 1, 5, 100, 1_000_000}[seed%5]))
	}
	return append(lists, some(7, api.MaxKeys, 20), some(8, api.MaxKeys, 1_000_000))
}

// eachList hands over all lists of n numbers from 0 to most.
func eachList(n, most int, see func([]int)) {
	l := make([]int, n)
	var fill func(int)
	fill = func(place int) {
		if place == n {
			see(l)
			return
		}
		for l[place] = 0; l[place] <= most; l[place]++ {
			fill(place + 1)
		}
	}
	fill(0)
}

// outranks: may b stand below a, and not a below b?
func outranks(a, b api.Pair) bool {
	return a.Value > b.Value || a.Value == b.Value && a.Key < b.Key
}

// depthOf counts those that outrank all others between them and place, place included.
func depthOf(l []api.Pair, place int) int {
	depth := 0
	for i, above := range l {
		between := l[min(i, place) : max(i, place)+1]
		if i != place && !slices.ContainsFunc(between, func(p api.Pair) bool { return outranks(p, above) }) {
			depth++
		}
	}
	return depth
}

// keeps tells whether no one in tree stands below one that must not be above it.
// It is enough to look at the one next above each.
func keeps(tree []api.Spot, l []api.Pair) bool {
	parents, _ := shape.Parents(tree)
	for i, above := range parents {
		if above >= 0 && !outranks(l[above], l[i]) {
			return false
		}
	}
	return true
}

type wrong struct {
	name string
	l    []api.Pair
	want api.Errno
}

// notMaps are the lists that Check refuses.
func notMaps() []wrong {
	both := plenty(0, api.MaxKeys+1, 1)
	both[0].Key = -1
	return []wrong{
		{"one too many", plenty(0, api.MaxKeys+1, 1), api.ErrLarge},
		{"far too many", make([]api.Pair, 100_000), api.ErrLarge},
		{"large is told ahead of form", both, api.ErrLarge},
		{"falling", []api.Pair{{Key: 2}, {Key: 1}}, api.ErrForm},
		{"falling at the end", []api.Pair{{Key: 1}, {Key: 5}, {Key: 4}}, api.ErrForm},
		{"twice", []api.Pair{{Key: 1}, {Key: 7}, {Key: 7, Value: 1}}, api.ErrForm},
		{"below 0", []api.Pair{{Key: -1}}, api.ErrForm},
		{"far below 0", []api.Pair{{Key: math.MinInt}, {Key: 3}}, api.ErrForm},
		{"above MaxKey", []api.Pair{{Key: api.MaxKey + 1}}, api.ErrForm},
		{"far above MaxKey", []api.Pair{{Key: 3}, {Key: math.MaxInt}}, api.ErrForm},
	}
}

// P5.1

func TestCheck(t *testing.T) {
	for _, c := range notMaps() {
		if got := Check(c.l); got != c.want || got != plain.Check(c.l) {
			t.Errorf("%s: %v, want %v", c.name, got, c.want)
		}
	}
	lists := append(samples(), []api.Pair{{Key: 0}, {Key: api.MaxKey}})
	for _, l := range lists {
		if got := Check(l); got != api.OK {
			t.Errorf("%v: %v", l, got)
		}
	}
}

func TestOf(t *testing.T) {
	cases := []struct {
		name string
		l    []api.Pair
		want []api.Spot
	}{
		{"nil", nil, nil},
		{"empty", []api.Pair{}, nil},
		{"one", ranked(-4), deep(0)},
		{"greatest key", []api.Pair{{Key: api.MaxKey, Value: 3}}, []api.Spot{{Key: api.MaxKey}}},
		{"the middle one above", ranked(4, 9, 4), deep(1, 0, 1)},
		{"the middle one lowest", ranked(5, 3, 4), deep(0, 2, 1)},
		{"ranks rise", ranked(1, 2, 3), deep(2, 1, 0)},
		{"ranks fall", ranked(3, 2, 1), deep(0, 1, 2)},
		{"all of one rank", ranked(7, 7, 7, 7), deep(0, 1, 2, 3)},
		{"two of the highest rank", ranked(1, 8, 3, 8, 2), deep(1, 0, 2, 1, 2)},
		{"one rank below a higher one", ranked(2, 2, 6, 2, 2), deep(1, 2, 0, 1, 2)},
		{"ranks below 0", ranked(-1, -5, -3), deep(0, 2, 1)},
		{"least and greatest rank", ranked(math.MinInt, math.MaxInt, 0, math.MinInt, math.MaxInt), deep(1, 0, 2, 3, 1)},
	}
	for _, c := range cases {
		if got, err := Of(c.l); !slices.Equal(got, c.want) || err != api.OK {
			t.Errorf("%s: %v %v, want %v", c.name, got, err, c.want)
		}
	}
}

func TestOfByWhoOutranksWhom(t *testing.T) {
	for _, l := range samples() {
		tree, err := Of(l)
		if err != api.OK || len(tree) != len(l) || shape.Check(tree) != api.OK || !keeps(tree, l) {
			t.Fatalf("%v: %v %v", l, tree, err)
		}
		for i, s := range tree {
			if want := (api.Spot{Key: l[i].Key, Depth: depthOf(l, i)}); s != want {
				t.Fatalf("%v: %v, want %v", l, s, want)
			}
		}
	}
}

// Of all trees of the same keys only one keeps to the ranks, and Of tells that one.
func TestOfIsTheOnlyOne(t *testing.T) {
	for n := range 6 {
		trees, _ := shape.All(n)
		eachList(n, 3, func(ranks []int) {
			l := plenty(0, n, 0)
			for i, rank := range ranks {
				l[i].Value = rank
			}
			got, err := Of(l)
			for _, tree := range trees {
				if keeps(tree, l) != slices.Equal(tree, got) || err != api.OK {
					t.Fatalf("%v: %v %v, and %v", l, got, err, tree)
				}
			}
		})
	}
}

// The tree is as it would be if those that rank higher had come first.
func TestOfAsItGrows(t *testing.T) {
	for _, l := range samples() {
		byRank := slices.SortedStableFunc(slices.Values(l), func(a, b api.Pair) int { return cmp.Compare(b.Value, a.Value) })
		var keys []int
		for _, p := range byRank {
			keys = append(keys, p.Key)
		}
		want, _ := grow.Of(keys)
		if got, err := Of(l); !slices.Equal(got, want) || err != api.OK {
			t.Fatalf("%v: %v %v, want %v", l, got, err, want)
		}
	}
}

func TestOfTellsErrors(t *testing.T) {
	for _, c := range notMaps() {
		if tree, err := Of(c.l); tree != nil || err != c.want {
			t.Errorf("%s: %v %v, want %v", c.name, tree, err, c.want)
		}
	}
}

func TestJoin(t *testing.T) {
	ends := []api.Pair{{Key: 0, Value: 1}, {Key: api.MaxKey, Value: 1}}
	cases := []struct {
		name string
		a, b []api.Pair
		want []api.Spot
	}{
		{"nothing", nil, []api.Pair{}, nil},
		{"nothing ahead", nil, ranked(4, 9, 4), deep(1, 0, 1)},
		{"nothing behind", ranked(4, 9, 4), []api.Pair{}, deep(1, 0, 1)},
		{"ends", ends[:1], ends[1:], []api.Spot{{Key: 0}, {Key: api.MaxKey, Depth: 1}}},
		{"neighbours", plenty(3, 1, 0), plenty(4, 1, 0), []api.Spot{{Key: 3}, {Key: 4, Depth: 1}}},
		{"the top is of a", ranked(9, 2, 5)[:2], ranked(9, 2, 5)[2:], deep(0, 2, 1)},
		{"the top is of b", ranked(1, 2, 5)[:2], ranked(1, 2, 5)[2:], deep(2, 1, 0)},
		{"by turns", ranked(8, 6, 4, 3, 5, 7)[:3], ranked(8, 6, 4, 3, 5, 7)[3:], deep(0, 2, 4, 5, 3, 1)},
	}
	for _, c := range cases {
		if got, err := Join(c.a, c.b); !slices.Equal(got, c.want) || err != api.OK {
			t.Errorf("%s: %v %v, want %v", c.name, got, err, c.want)
		}
	}
}

func TestJoinOfAllParts(t *testing.T) {
	for _, l := range samples() {
		want, _ := Of(l)
		for split := range len(l) + 1 {
			if got, err := Join(l[:split], l[split:]); !slices.Equal(got, want) || err != api.OK {
				t.Fatalf("%v %v: %v %v, want %v", l, split, got, err, want)
			}
		}
	}
}

func TestJoinTellsErrors(t *testing.T) {
	large, form := plenty(0, api.MaxKeys+1, 1), []api.Pair{{Key: 5}, {Key: 5}}
	most := plenty(1000, api.MaxKeys, 1)
	cases := []struct {
		name string
		a, b []api.Pair
		want api.Errno
	}{
		{"a ahead of b: large", large, form, api.ErrLarge},
		{"a ahead of b: form", form, large, api.ErrForm},
		{"b falls", plenty(0, 1, 1), form, api.ErrForm},
		{"b is large, and not behind", plenty(7, 1, 1), large, api.ErrLarge},
		{"the same", ranked(1), ranked(1), api.ErrForm},
		{"the last is the first", plenty(0, 3, 1), plenty(2, 3, 1), api.ErrForm},
		{"crossed", plenty(0, 5, 1), plenty(2, 1, 1), api.ErrForm},
		{"around", []api.Pair{{Key: 1}, {Key: 9}}, plenty(4, 2, 1), api.ErrForm},
		{"exchanged", plenty(4, 2, 1), plenty(0, 2, 1), api.ErrForm},
		{"one too many", plenty(999, 1, 1), most, api.ErrLarge},
		{"one too many behind", most, plenty(1200, 1, 1), api.ErrLarge},
		{"twice the most", most, plenty(1200, api.MaxKeys, 1), api.ErrLarge},
		{"form is told ahead of too many together", most, most, api.ErrForm},
		{"form is told ahead of one too many", most, plenty(1199, 1, 1), api.ErrForm},
	}
	for _, c := range cases {
		if tree, err := Join(c.a, c.b); tree != nil || err != c.want {
			t.Errorf("%s: %v %v, want %v", c.name, tree, err, c.want)
		}
	}
	for _, c := range notMaps() {
		for _, other := range [][]api.Pair{nil, plenty(500, 1, 1)} {
			tree, err := Join(c.l, other)
			if tree != nil || err != c.want {
				t.Errorf("%s, as a: %v %v, want %v", c.name, tree, err, c.want)
			}
			tree, err = Join(other, c.l)
			if tree != nil || err != c.want {
				t.Errorf("%s, as b: %v %v, want %v", c.name, tree, err, c.want)
			}
		}
	}
}

// P5.2

// nearestLess looks at all places ahead, the nearest first.
func nearestLess(l []int) []int {
	var nearest []int
	for i, number := range l {
		place := i - 1
		for place >= 0 && l[place] >= number {
			place--
		}
		nearest = append(nearest, place)
	}
	return nearest
}

func ranksOf(l []api.Pair) []int {
	var ranks []int
	for _, p := range l {
		ranks = append(ranks, p.Value)
	}
	return ranks
}

func TestLeast(t *testing.T) {
	cases := []struct{ l, want []int }{
		{nil, nil},
		{[]int{}, nil},
		{[]int{5}, []int{-1}},
		{[]int{1, 2, 3}, []int{-1, 0, 1}},
		{[]int{3, 2, 1}, []int{-1, -1, -1}},
		{[]int{4, 4, 4}, []int{-1, -1, -1}},
		{[]int{1, 4, 4, 4}, []int{-1, 0, 0, 0}},
		{[]int{1, 2, 9, 8, 7, 2, 3}, []int{-1, 0, 1, 1, 1, 0, 5}},
		{[]int{-3, 0, -2, -3, -4, 5}, []int{-1, 0, 0, -1, -1, 4}},
		{[]int{math.MinInt, math.MaxInt, 0, math.MinInt, math.MaxInt}, []int{-1, 0, 0, -1, 3}},
		{[]int{math.MaxInt, math.MaxInt - 1, math.MaxInt}, []int{-1, -1, 1}},
		{make([]int, api.MaxKeys), slices.Repeat([]int{-1}, api.MaxKeys)},
	}
	for _, c := range cases {
		if got, err := Least(c.l); !slices.Equal(got, c.want) || err != api.OK {
			t.Errorf("%v: %v %v, want %v", c.l, got, err, c.want)
		}
	}
}

func TestLeastLooksAtAllAhead(t *testing.T) {
	see := func(l []int) {
		if got, err := Least(l); !slices.Equal(got, nearestLess(l)) || err != api.OK {
			t.Fatalf("%v: %v %v", l, got, err)
		}
	}
	for n := range 7 {
		eachList(n, 4, see)
	}
	for _, l := range samples() {
		see(ranksOf(l))
	}
}

func TestLeastTellsErrors(t *testing.T) {
	for _, n := range []int{api.MaxKeys + 1, 100_000} {
		if got, err := Least(make([]int, n)); got != nil || err != api.ErrLarge {
			t.Error(n, got, err)
		}
	}
}

// P1

func TestNothingPanics(t *testing.T) {
	numbers := []int{math.MinInt, math.MinInt + 1, -1, 0, 1, 2, 199, 200, 201,
		api.MaxKey, api.MaxKey + 1, math.MaxInt - 1, math.MaxInt}
	lists := [][]api.Pair{nil, {}, make([]api.Pair, 2), make([]api.Pair, 100_000), plenty(0, 200, 1), plenty(0, 201, 1)}
	for _, a := range numbers {
		for _, b := range numbers {
			lists = append(lists, []api.Pair{{Key: a, Value: b}}, []api.Pair{{Key: a, Value: b}, {Key: b, Value: a}})
			for _, c := range numbers {
				Least([]int{a, b, c})
			}
		}
	}
	for _, a := range lists {
		Check(a)
		Of(a)
		Least(ranksOf(a))
		for _, b := range lists {
			Join(a, b)
		}
	}
}

// P2

// withRoom has the items of l, and room behind them that is filled with spare.
func withRoom[T any](l []T, spare T) []T {
	wide := slices.Clone(l)
	for range 5 {
		wide = append(wide, spare)
	}
	return wide[:len(l)]
}

// spoil writes over all of l, spare room included.
func spoil[T any](l []T, junk T) {
	l = l[:cap(l)]
	for i := range l {
		l[i] = junk
	}
}

func TestMemoryOfOf(t *testing.T) {
	for _, list := range append(samples(), ranked(1, 2)[1:], []api.Pair{{Key: 2}, {Key: 2}}) {
		l := withRoom(list, api.Pair{Key: 77, Value: 77})
		whole := l[:cap(l)]
		ahead := slices.Clone(whole)
		want, _ := Of(slices.Clone(list))
		tree, _ := Of(l)
		spoil(tree, api.Spot{Key: -7, Depth: -7})
		Check(l)
		if !slices.Equal(whole, ahead) {
			t.Fatal("changed what was handed in", list)
		}
		if again, _ := Of(l); !slices.Equal(again, want) {
			t.Fatal("kept something", list)
		}
	}
}

// The room behind a has b in it, and that behind b something else.
func TestMemoryOfJoin(t *testing.T) {
	for _, list := range samples() {
		both := withRoom(list, api.Pair{Key: 77, Value: 77})
		whole := both[:cap(both)]
		ahead := slices.Clone(whole)
		split := len(both) / 2
		want, _ := Of(slices.Clone(list))
		tree, _ := Join(both[:split], both[split:])
		spoil(tree, api.Spot{Key: -7, Depth: -7})
		other, _ := Join(both[:split], []api.Pair{{Key: api.MaxKey, Value: 3}})
		spoil(other, api.Spot{Key: -7, Depth: -7})
		Join(both[split:], both[:split])
		if !slices.Equal(whole, ahead) {
			t.Fatal("changed what was handed in", list)
		}
		if again, _ := Join(both[:split], both[split:]); !slices.Equal(again, want) {
			t.Fatal("kept something", list)
		}
	}
}

func TestMemoryOfLeast(t *testing.T) {
	for _, list := range samples() {
		l := withRoom(ranksOf(list), 77)
		whole := l[:cap(l)]
		ahead := slices.Clone(whole)
		nearest, _ := Least(l)
		spoil(nearest, -7)
		if !slices.Equal(whole, ahead) {
			t.Fatal("changed or answered what was handed in", list)
		}
		if again, _ := Least(l); !slices.Equal(again, nearestLess(l)) {
			t.Fatal("kept something", list)
		}
	}
}
