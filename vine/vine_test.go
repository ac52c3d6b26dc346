package vine

import (
	"math"
	"slices"
	"testing"

	"hedgewright/api"
	"hedgewright/shape"
)

// node is of a tree with pointers: the model that the answers are held against.
type node struct {
	key         int
	left, right *node
}

// modelOf is the tree that l tells.
func modelOf(l []api.Spot, depth int) *node {
	for i, s := range l {
		if s.Depth == depth {
			return &node{s.Key, modelOf(l[:i], depth+1), modelOf(l[i+1:], depth+1)}
		}
	}
	return nil
}

func (n *node) spots(depth int) []api.Spot {
	if n == nil {
		return nil
	}
	return slices.Concat(n.left.spots(depth+1), []api.Spot{{Key: n.key, Depth: depth}}, n.right.spots(depth+1))
}

// modelVine turns all to the right below a head that is no key, and tells who came up.
func modelVine(head *node) []int {
	var ups []int
	for last, rest := head, head.right; rest != nil; {
		left := rest.left
		if left == nil {
			last, rest = rest, rest.right
			continue
		}
		rest.left, left.right = left.right, rest
		last.right, rest = left, left
		ups = append(ups, left.key)
	}
	return ups
}

// modelPress turns so many to the left: each goes down below the one behind it.
func modelPress(head *node, times int) {
	for last := head; times > 0; times-- {
		down := last.right
		up := down.right
		down.right, up.left = up.left, down
		last.right = up
		last = up
	}
}

// modelEven has the vine, the tree that is pressed from it, and how many came up.
func modelEven(l []api.Spot) ([]int, []api.Spot, int) {
	head := &node{right: modelOf(l, 0)}
	ups := modelVine(head)
	full := len(l)
	for full&(full+1) != 0 {
		full--
	}
	modelPress(head, len(l)-full)
	all := len(ups) + len(l) - full
	for half := full / 2; half > 0; half /= 2 {
		modelPress(head, half)
		all += half
	}
	return ups, head.right.spots(0), all
}

// onOneWay has the keys of l, all of them on the way to the right.
func onOneWay(l []api.Spot) []api.Spot {
	vine := slices.Clone(l)
	for i := range vine {
		vine[i].Depth = i
	}
	return vine
}

// mirrored is the tree l seen from behind.
func mirrored(l []api.Spot) []api.Spot {
	m := slices.Clone(l)
	for i := range m {
		m[i].Depth = l[len(l)-1-i].Depth
	}
	return m
}

// straight has n keys from first on, all of them on the way to the right.
func straight(first, n int) []api.Spot {
	l := make([]api.Spot, n)
	for i := range l {
		l[i] = api.Spot{Key: first + i, Depth: i}
	}
	return l
}

// zigzag has n keys from 0 on: below the least is the greatest, and so on.
func zigzag(n int) []api.Spot {
	l := make([]api.Spot, n)
	for i := range l {
		l[i] = api.Spot{Key: i, Depth: min(2*i, 2*(n-1-i)+1)}
	}
	return l
}

// middles has n keys from 0 on, of all parts the middle one at the top.
func middles(n int) []api.Spot {
	l := straight(0, n)
	var stand func(l []api.Spot, depth int)
	stand = func(l []api.Spot, depth int) {
		if len(l) > 0 {
			top := len(l) / 2
			l[top].Depth = depth
			stand(l[:top], depth+1)
			stand(l[top+1:], depth+1)
		}
	}
	stand(l, 0)
	return l
}

// grown has n keys, each some more than the one ahead; who stands where
// follows from seed.
func grown(seed uint32, n int) []api.Spot {
	next := func(bound int) int {
		seed = seed*1664525 + 1013904223
		return int(seed>>8) % bound
	}
	l := make([]api.Spot, n)
	key := -next(50)
	for i := range l {
		key += 1 + next(9)
		l[i].Key = key
	}
	var stand func(l []api.Spot, depth int)
	stand = func(l []api.Spot, depth int) {
		if len(l) > 0 {
			top := next(len(l))
			l[top].Depth = depth
			stand(l[:top], depth+1)
			stand(l[top+1:], depth+1)
		}
	}
	stand(l, 0)
	return l
}

// trees has all small ones, and of many numbers of keys some of any shape.
func trees() [][]api.Spot {
	var lists [][]api.Spot
	for n := range 8 {
		all, _ := shape.All(n)
		lists = append(lists, all...)
	}
	for n := range api.MaxKeys + 1 {
		lists = append(lists, grown(uint32(n), n))
		// Around full numbers it changes how many come up at first.
		if n%17 == 0 || n&(n+1) == 0 || n&(n-1) == 0 || n == api.MaxKeys {
			lists = append(lists, straight(n, n), mirrored(straight(-n, n)), zigzag(n), mirrored(zigzag(n)), middles(n))
		}
	}
	return lists
}

// refused has lists that are no trees, and how Check tells it.
func refused() map[string]struct {
	l    []api.Spot
	want api.Errno
} {
	type list = struct {
		l    []api.Spot
		want api.Errno
	}
	wide := straight(0, 201)
	wide[7].Key = 6
	return map[string]list{
		"too many":              {straight(0, api.MaxKeys+1), api.ErrLarge},
		"far too many":          {make([]api.Spot, 100_000), api.ErrLarge},
		"too many, and no tree": {wide, api.ErrLarge},
		"one too deep":          {[]api.Spot{{Key: 1, Depth: 1}}, api.ErrForm},
		"one above the top":     {[]api.Spot{{Key: 1, Depth: -1}}, api.ErrForm},
		"falling":               {[]api.Spot{{Key: 2}, {Key: 1, Depth: 1}}, api.ErrForm},
		"a key twice":           {[]api.Spot{{Key: 2}, {Key: 2, Depth: 1}}, api.ErrForm},
		"two at the top":        {[]api.Spot{{Key: 1}, {Key: 2}}, api.ErrForm},
		"none at the top":       {[]api.Spot{{Key: 1, Depth: 1}, {Key: 2, Depth: 2}}, api.ErrForm},
		"a depth left out":      {[]api.Spot{{Key: 1}, {Key: 2, Depth: 2}}, api.ErrForm},
		"two below on one side": {[]api.Spot{{Key: 1}, {Key: 2, Depth: 1}, {Key: 3, Depth: 1}}, api.ErrForm},
		"far too deep":          {[]api.Spot{{Key: 1}, {Key: 2, Depth: math.MaxInt}}, api.ErrForm},
		"far above the top":     {[]api.Spot{{Key: 1, Depth: math.MinInt}, {Key: 2}}, api.ErrForm},
		"no depths":             {make([]api.Spot, api.MaxKeys), api.ErrForm},
	}
}

// P8.1

func TestVine(t *testing.T) {
	cases := []struct {
		name string
		l    []api.Spot
		want []int
	}{
		{"nil", nil, nil},
		{"empty", []api.Spot{}, nil},
		{"one", []api.Spot{{Key: 5}}, nil},
		{"a vine", straight(3, 6), nil},
		{"the greatest vine", straight(3, 200), nil},
		{"one to the left", []api.Spot{{Key: 4, Depth: 1}, {Key: 7}}, []int{4}},
		{"of three one comes up", []api.Spot{{Key: 1, Depth: 1}, {Key: 2}, {Key: 3, Depth: 1}}, []int{1}},
		{"below to the right", []api.Spot{{Key: 1}, {Key: 2, Depth: 2}, {Key: 3, Depth: 1}}, []int{2}},
		{"all to the left", mirrored(straight(0, 4)), []int{2, 1, 0}},
		{"what was between comes to the right", []api.Spot{{Key: 1, Depth: 1}, {Key: 2, Depth: 2}, {Key: 3}}, []int{1, 2}},
		{"zigzag", zigzag(5), []int{1, 3, 2}},
		{"zigzag from the left", mirrored(zigzag(5)), []int{0, 3, 1, 2}},
		{"seven", middles(7), []int{1, 0, 2, 4}},
		{"keys of any size", []api.Spot{{Key: math.MinInt, Depth: 1}, {Key: -1, Depth: 2}, {Key: math.MaxInt}}, []int{math.MinInt, -1}},
	}
	for _, c := range cases {
		if got, err := Vine(c.l); !slices.Equal(got, c.want) || err != api.OK {
			t.Errorf("%s: %v %v, want %v", c.name, got, err, c.want)
		}
	}
}

func TestVineAsTheModel(t *testing.T) {
	for _, l := range trees() {
		want, _, _ := modelEven(l)
		if got, err := Vine(l); !slices.Equal(got, want) || err != api.OK {
			t.Fatalf("%v: %v %v, want %v", l, got, err, want)
		}
	}
}

// Whoever comes up does so by shape.Turn; then none has a left one below it,
// and what was turned can be turned back.
func TestVineByTurns(t *testing.T) {
	for _, l := range trees() {
		ups, _ := Vine(l)
		turned, downs := l, []int(nil)
		for _, key := range ups {
			place := slices.IndexFunc(l, func(s api.Spot) bool { return s.Key == key })
			parents, _ := shape.Parents(turned)
			if parents[place] < place {
				t.Fatalf("%v: %v comes up from the right", l, key)
			}
			downs = append(downs, l[parents[place]].Key)
			turned, _ = shape.Turn(turned, key)
		}
		if !slices.Equal(turned, onOneWay(l)) {
			t.Fatalf("%v: %v leads to %v", l, ups, turned)
		}
		for i := range downs {
			turned, _ = shape.Turn(turned, downs[len(downs)-1-i])
		}
		if !slices.Equal(turned, l) {
			t.Fatalf("%v: %v turned back leads to %v", l, ups, turned)
		}
	}
}

func TestVineTellsErrors(t *testing.T) {
	for name, c := range refused() {
		if got, err := Vine(c.l); got != nil || err != c.want || err != shape.Check(c.l) {
			t.Errorf("%s: %v %v, want %v", name, got, err, c.want)
		}
	}
}

// P8.2

func TestEven(t *testing.T) {
	three := []api.Spot{{Key: 0, Depth: 1}, {Key: 1}, {Key: 2, Depth: 1}}
	cases := []struct {
		name string
		l    []api.Spot
		want []api.Spot
		ups  int
	}{
		{"nil", nil, nil, 0},
		{"empty", []api.Spot{}, nil, 0},
		{"one", []api.Spot{{Key: 5}}, []api.Spot{{Key: 5}}, 0},
		{"two: M is 1", straight(0, 2), []api.Spot{{Key: 0, Depth: 1}, {Key: 1}}, 1},
		{"two that are even", []api.Spot{{Key: 0, Depth: 1}, {Key: 1}}, []api.Spot{{Key: 0, Depth: 1}, {Key: 1}}, 2},
		{"three: M is 3", straight(0, 3), three, 1},
		{"three to the left", mirrored(straight(0, 3)), three, 3},
		{"three that are even", three, three, 2},
		{"four: one, then one", straight(0, 4), []api.Spot{{Key: 0, Depth: 2}, {Key: 1, Depth: 1}, {Key: 2}, {Key: 3, Depth: 1}}, 2},
		{"five: two, then one", straight(0, 5), []api.Spot{{Key: 0, Depth: 2}, {Key: 1, Depth: 1}, {Key: 2, Depth: 2}, {Key: 3}, {Key: 4, Depth: 1}}, 3},
		{"six: three, then one", straight(0, 6), []api.Spot{{Key: 0, Depth: 2}, {Key: 1, Depth: 1}, {Key: 2, Depth: 2}, {Key: 3},
			{Key: 4, Depth: 2}, {Key: 5, Depth: 1}}, 4},
		{"seven: three, then one", straight(0, 7), middles(7), 4},
		{"eight: one, three, one", straight(0, 8), []api.Spot{{Key: 0, Depth: 3}, {Key: 1, Depth: 2}, {Key: 2, Depth: 1}, {Key: 3, Depth: 2}, {Key: 4},
			{Key: 5, Depth: 2}, {Key: 6, Depth: 1}, {Key: 7, Depth: 2}}, 5},
		{"keys of any size", []api.Spot{{Key: math.MinInt}, {Key: -1, Depth: 2}, {Key: math.MaxInt, Depth: 1}},
			[]api.Spot{{Key: math.MinInt, Depth: 1}, {Key: -1}, {Key: math.MaxInt, Depth: 1}}, 2},
	}
	for _, c := range cases {
		if got, ups, err := Even(c.l); !slices.Equal(got, c.want) || ups != c.ups || err != api.OK {
			t.Errorf("%s: %v %v %v, want %v %v", c.name, got, ups, err, c.want, c.ups)
		}
	}
}

func TestEvenAsTheModel(t *testing.T) {
	for _, l := range trees() {
		_, want, wantUps := modelEven(l)
		if got, ups, err := Even(l); !slices.Equal(got, want) || ups != wantUps || err != api.OK {
			t.Fatalf("%v: %v %v %v, want %v %v", l, got, ups, err, want, wantUps)
		}
	}
}

// All rows of the tree are full, but for the lowest one, which is filled from
// the left.
func TestEvenIsFullFromTheLeft(t *testing.T) {
	for n := range api.MaxKeys + 1 {
		full := 1
		for 2*full <= n+1 {
			full *= 2
		}
		// All places of the full tree with one more row, but those of its
		// lowest row that no key is left for.
		var want []api.Spot
		for i := 1; i < 2*full; i++ {
			if i%2 == 1 && i/2 >= n-(full-1) {
				continue
			}
			depth := -1
			for step := 2 * full; i%step != 0; step /= 2 {
				depth++
			}
			want = append(want, api.Spot{Key: len(want), Depth: depth})
		}
		if got, _, err := Even(mirrored(straight(0, n))); !slices.Equal(got, want) || err != api.OK {
			t.Fatalf("%v: %v %v, want %v", n, got, err, want)
		}
	}
}

// However the keys stood, they stand in one way then, and no tree is less
// deep; how many came up tells only how far from a vine they were.
func TestEvenOfAllTrees(t *testing.T) {
	for n := range 8 {
		all, _ := shape.All(n)
		want, upsOfVine, _ := Even(straight(0, n))
		least := math.MaxInt
		for _, l := range all {
			got, ups, err := Even(l)
			vine, _ := Vine(l)
			if !slices.Equal(got, want) || ups != len(vine)+upsOfVine || err != api.OK {
				t.Fatalf("%v: %v %v %v, want %v", l, got, ups, err, want)
			}
			_, sum, _ := shape.Sum(l)
			least = min(least, sum)
		}
		if _, sum, err := shape.Sum(want); sum != least || err != api.OK {
			t.Errorf("%v: %v in all, want %v", n, sum, least)
		}
	}
}

func TestEvenTellsErrors(t *testing.T) {
	for name, c := range refused() {
		if got, ups, err := Even(c.l); got != nil || ups != 0 || err != c.want || err != shape.Check(c.l) {
			t.Errorf("%s: %v %v %v, want %v", name, got, ups, err, c.want)
		}
	}
}

// P1

func TestNothingPanics(t *testing.T) {
	numbers := []int{math.MinInt, math.MinInt + 1, -1, 0, 1, 2, 3, 200, api.MaxKey + 1, math.MaxInt - 1, math.MaxInt}
	for _, a := range numbers {
		for _, b := range numbers {
			for _, deep := range numbers {
				for _, deeper := range numbers {
					l := []api.Spot{{Key: a, Depth: deep}, {Key: b, Depth: deeper}, {Key: math.MaxInt, Depth: 1}}
					for n := range 4 {
						Vine(l[:n])
						Even(l[:n])
					}
				}
			}
		}
	}
}

// P2

// withRoom has the spots of l, and room behind them that is filled.
func withRoom(l []api.Spot) []api.Spot {
	wide := slices.Clone(l)
	for range 5 {
		wide = append(wide, api.Spot{Key: 77, Depth: 1})
	}
	return wide[:len(l)]
}

// spoil writes over all of l, spare room included.
func spoil[T any](l []T, junk T) {
	l = l[:cap(l)]
	for i := range l {
		l[i] = junk
	}
}

func TestMemory(t *testing.T) {
	lists := trees()
	for _, c := range refused() {
		lists = append(lists, c.l)
	}
	for _, list := range lists {
		l := withRoom(list)
		whole := l[:cap(l)]
		ahead := slices.Clone(whole)
		keys, _ := Vine(l)
		tree, ups, _ := Even(l)
		wantKeys, wantTree := slices.Clone(keys), slices.Clone(tree)
		spoil(keys, -7)
		spoil(tree, api.Spot{Key: -7, Depth: -7})
		if !slices.Equal(whole, ahead) {
			t.Fatal("changed what was handed in", list)
		}
		again, _ := Vine(l)
		even, count, _ := Even(l)
		if !slices.Equal(again, wantKeys) || !slices.Equal(even, wantTree) || count != ups {
			t.Fatal("kept something", list)
		}
	}
}
