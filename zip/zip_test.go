package zip

import (
	"math"
	"slices"
	"testing"

	"hedgewright/api"
	"hedgewright/heap"
	"hedgewright/plain"
	"hedgewright/shape"
	"hedgewright/skip"
)

// node is of a tree with pointers that is unzipped where a key comes, and
// zipped where one goes: the model that the answers are held against.
type node struct {
	key         int
	left, right *node
}

// above: must a stand above b, where one of them is above the other?
func above(a, b int) bool {
	if skip.Height(a) != skip.Height(b) {
		return skip.Height(a) > skip.Height(b)
	}
	return a < b
}

// unzip takes a tree apart, along the way to key.
func unzip(n *node, key int) (*node, *node) {
	if n == nil {
		return nil, nil
	}
	if n.key < key {
		less, more := unzip(n.right, key)
		n.right = less
		return n, more
	}
	less, more := unzip(n.left, key)
	n.left = more
	return less, n
}

// zipUp puts two trees together, along the edges on which they meet.
func zipUp(a, b *node) *node {
	switch {
	case a == nil:
		return b
	case b == nil:
		return a
	case above(a.key, b.key):
		a.right = zipUp(a.right, b)
		return a
	}
	b.left = zipUp(a, b.left)
	return b
}

func (n *node) has(key int) bool {
	for n != nil && n.key != key {
		if key < n.key {
			n = n.left
		} else {
			n = n.right
		}
	}
	return n != nil
}

func (n *node) put(key int) *node {
	switch {
	case n == nil || above(key, n.key):
		less, more := unzip(n, key)
		return &node{key, less, more}
	case key < n.key:
		n.left = n.left.put(key)
	default:
		n.right = n.right.put(key)
	}
	return n
}

func (n *node) cut(key int) *node {
	switch {
	case key == n.key:
		return zipUp(n.left, n.right)
	case key < n.key:
		n.left = n.left.cut(key)
	default:
		n.right = n.right.cut(key)
	}
	return n
}

func (n *node) spots(l []api.Spot, depth int) []api.Spot {
	if n == nil {
		return l
	}
	l = n.left.spots(l, depth+1)
	return n.right.spots(append(l, api.Spot{Key: n.key, Depth: depth}), depth+1)
}

// treeOf is the model's tree of these keys, whatever their bounds and order.
func treeOf(keys ...int) []api.Spot {
	var top *node
	for _, key := range keys {
		top = top.put(key)
	}
	return top.spots(nil, 0)
}

func treeBy(ops []api.Op) []api.Spot {
	var top *node
	count := 0
	for _, o := range ops {
		switch is := top.has(o.Key); {
		case o.Key < 0 || o.Key > api.MaxKey:
		case o.Kind == api.KPut && !is && count < api.MaxKeys:
			top = top.put(o.Key)
			count++
		case o.Kind == api.KCut && is:
			top = top.cut(o.Key)
			count--
		}
	}
	return top.spots(nil, 0)
}

// keeps tells whether l is zipped, by who stands next above whom.
func keeps(l []api.Spot) bool {
	parents, err := shape.Parents(l)
	for i, place := range parents {
		if place >= 0 && !above(l[place].Key, l[i].Key) {
			return false
		}
	}
	return err == api.OK
}

func rising(first, n int) []int {
	keys := make([]int, n)
	for i := range keys {
		keys[i] = first + i
	}
	return keys
}

// ofHeight has the n least keys of that Height.
func ofHeight(height, n int) []int {
	var keys []int
	for key := 0; len(keys) < n; key++ {
		if skip.Height(key) == height {
			keys = append(keys, key)
		}
	}
	return keys
}

// some has n keys that rise by up to step, and follow from seed.
func some(seed uint32, n, step int) []int {
	keys := make([]int, n)
	key := -1
	for i := range keys {
		seed = seed*1664525 + 1013904223
		key += 1 + int(seed>>8)%step
		keys[i] = key
	}
	return keys
}

func puts(keys ...int) []api.Op {
	ops := make([]api.Op, len(keys))
	for i, key := range keys {
		ops[i] = api.Op{Kind: api.KPut, Key: key, Value: key * 10}
	}
	return ops
}

func cuts(keys ...int) []api.Op {
	ops := puts(keys...)
	for i := range ops {
		ops[i].Kind = api.KCut
	}
	return ops
}

// someOps has n ops of keys from -1 to most, that follow from seed.
func someOps(seed uint32, n, most int) []api.Op {
	next := func(bound int) int {
		seed = seed*1664525 + 1013904223
		return int(seed>>8) % bound
	}
	kinds := []int{api.KPut, api.KPut, api.KPut, api.KCut, api.KCut, api.KGet, api.KNext, api.KPrev, api.KCount, api.KNth, 0, 8}
	ops := make([]api.Op, n)
	for i := range ops {
		ops[i] = api.Op{Kind: kinds[next(len(kinds))], Key: next(most+2) - 1, Value: next(1000)}
	}
	return ops
}

// sampleKeys also has keys that are no keys of a map: Check of shape lets them be.
func sampleKeys() [][]int {
	lists := [][]int{nil, {0}, {api.MaxKey}, {0, 143}, {0, api.MaxKey}, rising(0, api.MaxKeys), rising(api.MaxKey-199, api.MaxKeys),
		ofHeight(1, api.MaxKeys), ofHeight(4, 50), ofHeight(12, 5), rising(-100, api.MaxKeys),
		{math.MinInt, math.MinInt + 1, -1, 0, 1, api.MaxKey, api.MaxKey + 1, math.MaxInt - 1, math.MaxInt}}
	for seed := range uint32(60) {
		lists = append(lists, some(seed, int(seed)*3, []int{1, 3, 50, 4000}[seed%4]))
	}
	return lists
}

type wrong struct {
	name string
	l    []api.Spot
	want api.Errno
}

// notTrees are the lists that shape's Check refuses.
func notTrees() []wrong {
	many := treeOf(rising(0, api.MaxKeys+1)...)
	both := slices.Clone(many)
	both[3].Key = 2
	return []wrong{
		{"one too many", many, api.ErrLarge},
		{"far too many", make([]api.Spot, 100_000), api.ErrLarge},
		{"large is told ahead of form", both, api.ErrLarge},
		{"falling", []api.Spot{{Key: 2}, {Key: 1, Depth: 1}}, api.ErrForm},
		{"twice", []api.Spot{{Key: 2}, {Key: 2, Depth: 1}}, api.ErrForm},
		{"two at the top", []api.Spot{{Key: 0}, {Key: 1}}, api.ErrForm},
		{"none at the top", []api.Spot{{Key: 0, Depth: 1}}, api.ErrForm},
		{"above the top", []api.Spot{{Key: 0, Depth: -1}, {Key: 1}}, api.ErrForm},
		{"too deep", []api.Spot{{Key: 0}, {Key: 1, Depth: 2}}, api.ErrForm},
	}
}

// notZipped are trees that are not zipped. The Heights of 0 to 8 are
// 12, 1, 2, 5, 3, 3, 3, 3 and 4.
func notZipped() []wrong {
	return []wrong{
		{"0 below", []api.Spot{{Key: 0, Depth: 1}, {Key: 1}}, api.ErrForm},
		{"below a lesser Height, on the left", []api.Spot{{Key: 3, Depth: 1}, {Key: 8}}, api.ErrForm},
		{"below a lesser Height, on the right", []api.Spot{{Key: 1}, {Key: 2, Depth: 1}}, api.ErrForm},
		{"of one Height below one that is more", []api.Spot{{Key: 4, Depth: 1}, {Key: 5}}, api.ErrForm},
		{"greatest Height below one that is more", []api.Spot{{Key: 0, Depth: 1}, {Key: 143}}, api.ErrForm},
		{"far below", []api.Spot{{Key: 1, Depth: 2}, {Key: 2, Depth: 3}, {Key: 3, Depth: 1}, {Key: 143}}, api.ErrForm},
		{"of one Height, far below", []api.Spot{{Key: 4}, {Key: 5, Depth: 3}, {Key: 6, Depth: 2}, {Key: 7, Depth: 1}}, api.ErrForm},
		{"below 0, of one Height", []api.Spot{{Key: -3, Depth: 1}, {Key: -1}}, api.ErrForm},
	}
}

// P6.1

func TestRunTellsTheTree(t *testing.T) {
	cases := []struct {
		name string
		ops  []api.Op
		want []api.Spot
	}{
		{"nil", nil, nil},
		{"empty", []api.Op{}, nil},
		{"one", puts(9), []api.Spot{{Key: 9}}},
		{"greatest key", puts(api.MaxKey), []api.Spot{{Key: api.MaxKey}}},
		{"Heights rise", puts(1, 2, 3), []api.Spot{{Key: 1, Depth: 2}, {Key: 2, Depth: 1}, {Key: 3}}},
		{"one in the middle is higher", puts(7, 8, 9), []api.Spot{{Key: 7, Depth: 1}, {Key: 8}, {Key: 9, Depth: 1}}},
		{"of one Height", puts(7, 5, 4, 6), []api.Spot{{Key: 4}, {Key: 5, Depth: 1}, {Key: 6, Depth: 2}, {Key: 7, Depth: 3}}},
		{"0 is the highest", puts(143, 0), []api.Spot{{Key: 0}, {Key: 143, Depth: 1}}},
		{"nine", puts(8, 7, 6, 5, 4, 3, 2, 1, 0), []api.Spot{{Key: 0}, {Key: 1, Depth: 3}, {Key: 2, Depth: 2}, {Key: 3, Depth: 1},
			{Key: 4, Depth: 3}, {Key: 5, Depth: 4}, {Key: 6, Depth: 5}, {Key: 7, Depth: 6}, {Key: 8, Depth: 2}}},
		{"cut", append(puts(0, 1, 2, 3, 4, 5, 6, 7, 8), cuts(3)...), []api.Spot{{Key: 0}, {Key: 1, Depth: 4}, {Key: 2, Depth: 3},
			{Key: 4, Depth: 2}, {Key: 5, Depth: 3}, {Key: 6, Depth: 4}, {Key: 7, Depth: 5}, {Key: 8, Depth: 1}}},
		{"all cut", append(puts(1, 2, 3), cuts(2, 3, 1)...), nil},
		{"put twice", puts(2, 1, 2, 1), []api.Spot{{Key: 1, Depth: 1}, {Key: 2}}},
		{"refused", append(puts(-1, 2, api.MaxKey+1), api.Op{Kind: 8, Key: 3}), []api.Spot{{Key: 2}}},
	}
	for _, c := range cases {
		got, answers, err := Run(c.ops)
		if !slices.Equal(got, c.want) || len(answers) != len(c.ops) || err != api.OK {
			t.Errorf("%s: %v %v %v, want %v", c.name, got, answers, err, c.want)
		}
	}
}

func TestRunAsPlainAndAsTheModel(t *testing.T) {
	for seed := range uint32(300) {
		ops := someOps(seed, int(seed), []int{3, 20, 100, 1000, api.MaxKey + 1}[seed%5])
		pairs, want, _ := plain.Run(ops)
		tree, answers, err := Run(ops)
		if err != api.OK || !slices.Equal(answers, want) || len(tree) != len(pairs) {
			t.Fatalf("%v: %v %v", ops, answers, err)
		}
		if model := treeBy(ops); !slices.Equal(tree, model) || !keeps(tree) {
			t.Fatalf("%v: %v, want %v", ops, tree, model)
		}
	}
}

// Of all trees of the same keys only one is zipped, and Run tells that one.
func TestRunTellsTheOnlyOne(t *testing.T) {
	for n := range 8 {
		trees, _ := shape.All(n)
		for _, keys := range [][]int{rising(0, n), rising(3, n), ofHeight(2, n), some(5, n, 9), some(6, n, 500)} {
			got, _, err := Run(puts(keys...))
			for _, tree := range trees {
				for i, key := range keys {
					tree[i].Key = key
				}
				if keeps(tree) != slices.Equal(tree, got) || err != api.OK {
					t.Fatalf("%v: %v %v, and %v", keys, got, err, tree)
				}
			}
		}
	}
}

// Those that are higher rank higher, and of one Height the least key is above in both.
func TestRunAsRankedByHeights(t *testing.T) {
	for seed := range uint32(200) {
		keys := some(seed, int(seed), 2000)
		var ranks []api.Pair
		for _, key := range keys {
			ranks = append(ranks, api.Pair{Key: key, Value: skip.Height(key)})
		}
		want, _ := heap.Of(ranks)
		if got, _, err := Run(puts(keys...)); !slices.Equal(got, want) || err != api.OK {
			t.Fatalf("%v: %v %v, want %v", keys, got, err, want)
		}
	}
}

func TestRunTellsNothingOfWhatWasAhead(t *testing.T) {
	keys := some(11, 80, 40)
	want, _, _ := Run(puts(keys...))
	turned := slices.Clone(keys)
	slices.Reverse(turned)
	// These are high ones, and none of keys.
	others := []int{4739, 7391, 9478, 4373, 6914}
	ways := [][]api.Op{
		puts(turned...),
		append(puts(turned...), puts(keys...)...),
		slices.Concat(puts(others...), puts(keys...), cuts(others...)),
		slices.Concat(puts(keys...), cuts(keys...), puts(turned...)),
	}
	for i, ops := range ways {
		if got, _, err := Run(ops); !slices.Equal(got, want) || err != api.OK {
			t.Errorf("way %d: %v %v, want %v", i, got, err, want)
		}
	}
}

func TestRunAtItsLimits(t *testing.T) {
	most := make([]api.Op, api.MaxOps)
	if tree, answers, err := Run(most); len(tree) != 0 || len(answers) != api.MaxOps || answers[0].Err != api.ErrArg || err != api.OK {
		t.Error("most ops:", tree, answers, err)
	}
	for _, n := range []int{api.MaxOps + 1, 100_000} {
		ops := make([]api.Op, n)
		copy(ops, puts(1, 2))
		if tree, answers, err := Run(ops); tree != nil || answers != nil || err != api.ErrLarge {
			t.Error("too many ops:", n, tree, answers, err)
		}
	}
	full := append(puts(rising(1, api.MaxKeys)...), puts(0, 500, 1)...)
	tree, answers, err := Run(full)
	if !slices.Equal(tree, treeOf(rising(1, api.MaxKeys)...)) || err != api.OK {
		t.Error("full:", tree, err)
	}
	if answers[200].Err != api.ErrLarge || answers[201].Err != api.ErrLarge || answers[202] != (api.Ans{Is: true}) {
		t.Error("full:", answers[200:])
	}
}

// P6.2

func TestSplit(t *testing.T) {
	nine := treeOf(rising(0, 9)...)
	cases := []struct {
		name       string
		l          []api.Spot
		key        int
		less, more []api.Spot
	}{
		{"nothing", nil, 0, nil, nil},
		{"empty", []api.Spot{}, api.MaxKey, nil, nil},
		{"ahead of one", []api.Spot{{Key: 5}}, 4, nil, []api.Spot{{Key: 5}}},
		{"at one", []api.Spot{{Key: 5}}, 5, nil, []api.Spot{{Key: 5}}},
		{"behind one", []api.Spot{{Key: 5}}, 6, []api.Spot{{Key: 5}}, nil},
		{"at 0", nine, 0, nil, nine},
		{"behind 0", nine, 1, []api.Spot{{Key: 0}}, []api.Spot{{Key: 1, Depth: 2}, {Key: 2, Depth: 1}, {Key: 3},
			{Key: 4, Depth: 2}, {Key: 5, Depth: 3}, {Key: 6, Depth: 4}, {Key: 7, Depth: 5}, {Key: 8, Depth: 1}}},
		{"at a high one", nine, 3, []api.Spot{{Key: 0}, {Key: 1, Depth: 2}, {Key: 2, Depth: 1}},
			[]api.Spot{{Key: 3}, {Key: 4, Depth: 2}, {Key: 5, Depth: 3}, {Key: 6, Depth: 4}, {Key: 7, Depth: 5}, {Key: 8, Depth: 1}}},
		{"of one Height", nine, 6, []api.Spot{{Key: 0}, {Key: 1, Depth: 3}, {Key: 2, Depth: 2}, {Key: 3, Depth: 1}, {Key: 4, Depth: 2}, {Key: 5, Depth: 3}},
			[]api.Spot{{Key: 6, Depth: 1}, {Key: 7, Depth: 2}, {Key: 8}}},
		{"behind all", nine, 9, nine, nil},
		{"greatest", nine, api.MaxKey, nine, nil},
		{"at the greatest", []api.Spot{{Key: api.MaxKey}}, api.MaxKey, nil, []api.Spot{{Key: api.MaxKey}}},
		{"keys out of bounds", []api.Spot{{Key: -2}, {Key: -1, Depth: 1}}, 0, []api.Spot{{Key: -2}, {Key: -1, Depth: 1}}, nil},
	}
	for _, c := range cases {
		less, more, err := Split(c.l, c.key)
		if !slices.Equal(less, c.less) || !slices.Equal(more, c.more) || err != api.OK {
			t.Errorf("%s: %v %v %v, want %v %v", c.name, less, more, err, c.less, c.more)
		}
	}
}

func TestSplitAndMergeEverywhere(t *testing.T) {
	for _, keys := range sampleKeys() {
		whole := treeOf(keys...)
		splits := []int{0, 1, api.MaxKey / 2, api.MaxKey}
		for _, key := range keys {
			splits = append(splits, key, min(key, math.MaxInt-1)+1)
		}
		for _, key := range splits {
			if key < 0 || key > api.MaxKey {
				continue
			}
			place, _ := slices.BinarySearch(keys, key)
			less, more, err := Split(whole, key)
			if !slices.Equal(less, treeOf(keys[:place]...)) || !slices.Equal(more, treeOf(keys[place:]...)) || err != api.OK {
				t.Fatalf("%v at %v: %v %v %v", keys, key, less, more, err)
			}
			if back, err := Merge(less, more); !slices.Equal(back, whole) || err != api.OK {
				t.Fatalf("%v at %v, and back: %v %v", keys, key, back, err)
			}
		}
	}
}

func TestSplitTellsErrors(t *testing.T) {
	for _, c := range append(notTrees(), notZipped()...) {
		// What is wrong with the tree is told ahead of a key that is none.
		for _, key := range []int{1, -1, api.MaxKey + 1} {
			if less, more, err := Split(c.l, key); less != nil || more != nil || err != c.want {
				t.Errorf("%s, %v: %v %v %v, want %v", c.name, key, less, more, err, c.want)
			}
		}
	}
	for _, l := range [][]api.Spot{nil, treeOf(1, 2, 3), treeOf(-1, api.MaxKey+1)} {
		for _, key := range []int{-1, math.MinInt, api.MaxKey + 1, math.MaxInt} {
			if less, more, err := Split(l, key); less != nil || more != nil || err != api.ErrArg {
				t.Errorf("%v, %v: %v %v %v", l, key, less, more, err)
			}
		}
	}
}

// All trees of a few keys: those that are not zipped are refused, the one that is is taken.
func TestSplitAndMergeOfAllSmallOnes(t *testing.T) {
	trees, _ := shape.All(6)
	for _, keys := range [][]int{rising(0, 6), rising(3, 6), ofHeight(3, 6), some(9, 6, 100)} {
		for _, l := range trees {
			for i, key := range keys {
				l[i].Key = key
			}
			want := api.ErrForm
			if keeps(l) {
				want = api.OK
			}
			_, _, split := Split(l, 0)
			_, merged := Merge(l, nil)
			_, behind := Merge([]api.Spot{{Key: -1}}, l)
			_, ahead := Merge(l, []api.Spot{{Key: api.MaxKey}})
			if split != want || merged != want || behind != want || ahead != want {
				t.Fatalf("%v: %v %v %v %v, want %v", l, split, merged, behind, ahead, want)
			}
		}
	}
}

func TestMerge(t *testing.T) {
	nine := treeOf(rising(0, 9)...)
	cases := []struct {
		name string
		a, b []api.Spot
		want []api.Spot
	}{
		{"nothing", nil, []api.Spot{}, nil},
		{"nothing ahead", nil, nine, nine},
		{"nothing behind", nine, []api.Spot{}, nine},
		{"the top is of a", []api.Spot{{Key: 3}}, []api.Spot{{Key: 8}}, []api.Spot{{Key: 3}, {Key: 8, Depth: 1}}},
		{"the top is of b", []api.Spot{{Key: 1}}, []api.Spot{{Key: 2}}, []api.Spot{{Key: 1, Depth: 1}, {Key: 2}}},
		{"of one Height", []api.Spot{{Key: 4}}, []api.Spot{{Key: 5}}, []api.Spot{{Key: 4}, {Key: 5, Depth: 1}}},
		{"by turns", []api.Spot{{Key: 1, Depth: 2}, {Key: 2, Depth: 1}, {Key: 3}}, []api.Spot{{Key: 7, Depth: 1}, {Key: 8}, {Key: 9, Depth: 1}},
			[]api.Spot{{Key: 1, Depth: 2}, {Key: 2, Depth: 1}, {Key: 3}, {Key: 7, Depth: 2}, {Key: 8, Depth: 1}, {Key: 9, Depth: 2}}},
		{"ends", []api.Spot{{Key: 0}}, []api.Spot{{Key: api.MaxKey}}, []api.Spot{{Key: 0}, {Key: api.MaxKey, Depth: 1}}},
		{"keys out of bounds", []api.Spot{{Key: -1}}, []api.Spot{{Key: 0}}, []api.Spot{{Key: -1, Depth: 1}, {Key: 0}}},
		{"as many as there may be", treeOf(rising(0, 1)...), treeOf(rising(1, 199)...), treeOf(rising(0, 200)...)},
	}
	for _, c := range cases {
		if got, err := Merge(c.a, c.b); !slices.Equal(got, c.want) || err != api.OK {
			t.Errorf("%s: %v %v, want %v", c.name, got, err, c.want)
		}
	}
}

func TestMergeOfAllParts(t *testing.T) {
	for _, keys := range sampleKeys() {
		want := treeOf(keys...)
		for place := range len(keys) + 1 {
			got, err := Merge(treeOf(keys[:place]...), treeOf(keys[place:]...))
			if !slices.Equal(got, want) || err != api.OK {
				t.Fatalf("%v at %v: %v %v, want %v", keys, place, got, err, want)
			}
		}
	}
}

func TestMergeTellsErrors(t *testing.T) {
	large, form := treeOf(rising(0, api.MaxKeys+1)...), []api.Spot{{Key: 500}, {Key: 501}}
	most, other := treeOf(rising(1000, api.MaxKeys)...), notZipped()[0].l
	cases := []struct {
		name string
		a, b []api.Spot
		want api.Errno
	}{
		{"a ahead of b: large", large, form, api.ErrLarge},
		{"a ahead of b: form", form, large, api.ErrForm},
		{"a is not zipped, b is large", other, large, api.ErrLarge},
		{"b is large, and not behind", treeOf(7), large, api.ErrLarge},
		{"both are not zipped", other, notZipped()[1].l, api.ErrForm},
		{"the same", treeOf(4), treeOf(4), api.ErrForm},
		{"the last is the first", treeOf(0, 1, 2), treeOf(2, 3), api.ErrForm},
		{"crossed", treeOf(0, 1, 2, 3, 4), treeOf(2), api.ErrForm},
		{"around", treeOf(1, 9), treeOf(4, 5), api.ErrForm},
		{"exchanged", treeOf(4, 5), treeOf(0, 1), api.ErrForm},
		{"one too many", treeOf(999), most, api.ErrLarge},
		{"one too many behind", most, treeOf(1200), api.ErrLarge},
		{"twice the most", most, treeOf(rising(1200, api.MaxKeys)...), api.ErrLarge},
		{"not zipped is told ahead of too many together", other, most, api.ErrForm},
		{"not behind is told ahead of too many together", most, most, api.ErrForm},
		{"not behind is told ahead of one too many", most, treeOf(1199), api.ErrForm},
	}
	for _, c := range cases {
		if tree, err := Merge(c.a, c.b); tree != nil || err != c.want {
			t.Errorf("%s: %v %v, want %v", c.name, tree, err, c.want)
		}
	}
	for _, c := range append(notTrees(), notZipped()...) {
		if tree, err := Merge(c.l, treeOf(200_000)); tree != nil || err != c.want {
			t.Errorf("%s, as a: %v %v, want %v", c.name, tree, err, c.want)
		}
		if tree, err := Merge(treeOf(-9), c.l); tree != nil || err != c.want {
			t.Errorf("%s, as b: %v %v, want %v", c.name, tree, err, c.want)
		}
	}
}

// P1

func TestNothingPanics(t *testing.T) {
	numbers := []int{math.MinInt, math.MinInt + 1, -1, 0, 1, 2, 199, 200, 201,
		api.MaxKey, api.MaxKey + 1, math.MaxInt - 1, math.MaxInt}
	lists := [][]api.Spot{nil, {}, make([]api.Spot, 2), make([]api.Spot, 100_000),
		treeOf(rising(0, 200)...), treeOf(rising(0, 201)...), treeOf(numbers...)}
	for _, a := range numbers {
		for _, b := range numbers {
			lists = append(lists, []api.Spot{{Key: a, Depth: b}}, []api.Spot{{Key: a}, {Key: b, Depth: 1}}, []api.Spot{{Key: a, Depth: 1}, {Key: b}})
			for _, kind := range numbers {
				Run([]api.Op{{Kind: kind, Key: a, Value: b}, {Kind: api.KPut, Key: b, Value: a}, {Kind: kind, Key: b}})
			}
		}
	}
	for _, a := range lists {
		for _, key := range numbers {
			Split(a, key)
		}
		for _, b := range lists {
			Merge(a, b)
		}
	}
}

// P2

// withRoom has the items of l, and room behind them that is filled with spare.
func withRoom[T any](l []T, spare T) []T {
	wide := slices.Clone(l)
	for range 5 {
		wide = append(wide, spare)
	}
	return wide[:len(l)]
}

// spoil writes over all of l, spare room included.
func spoil[T any](l []T, junk T) {
	l = l[:cap(l)]
	for i := range l {
		l[i] = junk
	}
}

func TestMemoryOfRun(t *testing.T) {
	for seed := range uint32(100) {
		list := someOps(seed, int(seed)*3, 50)
		ops := withRoom(list, api.Op{Kind: api.KPut, Key: 77})
		whole := ops[:cap(ops)]
		ahead := slices.Clone(whole)
		tree, answers, _ := Run(ops)
		spoil(tree, api.Spot{Key: -7, Depth: -7})
		spoil(answers, api.Ans{Err: -7})
		if !slices.Equal(whole, ahead) {
			t.Fatal("changed what was handed in", list)
		}
		_, want, _ := plain.Run(list)
		if tree, answers, _ := Run(ops); !slices.Equal(tree, treeBy(list)) || !slices.Equal(answers, want) {
			t.Fatal("kept something", list)
		}
	}
}

func TestMemoryOfSplit(t *testing.T) {
	for _, keys := range sampleKeys() {
		l := withRoom(treeOf(keys...), api.Spot{Key: 77, Depth: 77})
		whole := l[:cap(l)]
		ahead := slices.Clone(whole)
		for _, key := range []int{0, 1, 100, 1000, api.MaxKey} {
			place, _ := slices.BinarySearch(keys, key)
			less, more, _ := Split(l, key)
			spoil(less, api.Spot{Key: -7, Depth: -7})
			if !slices.Equal(more, treeOf(keys[place:]...)) {
				t.Fatal("the two share memory", keys, key)
			}
			spoil(more, api.Spot{Key: -8, Depth: -8})
			if slices.Contains(less[:cap(less)], api.Spot{Key: -8, Depth: -8}) {
				t.Fatal("the two share spare room", keys, key)
			}
			if !slices.Equal(whole, ahead) {
				t.Fatal("changed or answered what was handed in", keys, key)
			}
			if less, _, _ := Split(l, key); !slices.Equal(less, treeOf(keys[:place]...)) {
				t.Fatal("kept something", keys, key)
			}
		}
		Split(l, -1)
	}
	for _, c := range append(notTrees(), notZipped()...) {
		ahead := slices.Clone(c.l)
		Split(c.l, 1)
		if !slices.Equal(c.l, ahead) {
			t.Error("changed what it refused:", c.name)
		}
	}
}

// The room behind a has something else in it that must stay, and so has that behind b.
func TestMemoryOfMerge(t *testing.T) {
	for _, keys := range sampleKeys() {
		place := len(keys) / 2
		a := withRoom(treeOf(keys[:place]...), api.Spot{Key: 77, Depth: 77})
		b := withRoom(treeOf(keys[place:]...), api.Spot{Key: 78, Depth: 78})
		wholeA, wholeB := a[:cap(a)], b[:cap(b)]
		aheadA, aheadB := slices.Clone(wholeA), slices.Clone(wholeB)
		for _, pair := range [][2][]api.Spot{{a, b}, {a, nil}, {nil, b}, {b, a}} {
			tree, _ := Merge(pair[0], pair[1])
			spoil(tree, api.Spot{Key: -7, Depth: -7})
			if !slices.Equal(wholeA, aheadA) || !slices.Equal(wholeB, aheadB) {
				t.Fatal("changed or answered what was handed in", keys)
			}
		}
		if again, _ := Merge(a, b); !slices.Equal(again, treeOf(keys...)) {
			t.Fatal("kept something", keys)
		}
	}
	for _, c := range append(notTrees(), notZipped()...) {
		ahead := slices.Clone(c.l)
		Merge(c.l, c.l)
		if !slices.Equal(c.l, ahead) {
			t.Error("changed what it refused:", c.name)
		}
	}
}
