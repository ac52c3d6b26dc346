package skip

import (
	"math"
	"slices"
	"testing"

	"hedgewright/api"
	"hedgewright/plain"
)

// link is a key of a list with pointers, one for each row: the model that the
// answers are held against.
type link struct {
	key  int
	next []*link
}

// linked puts key by key into a list with pointers; it tells what stands ahead of all.
func linked(keys []int) *link {
	head := &link{key: -1, next: make([]*link, api.MaxRows)}
	for _, key := range keys {
		n := &link{key: key, next: make([]*link, bitwiseHeight(key))}
		at := head
		for row := api.MaxRows - 1; row >= 0; row-- {
			for at.next[row] != nil && at.next[row].key < key {
				at = at.next[row]
			}
			if row < len(n.next) {
				n.next[row], at.next[row] = at.next[row], n
			}
		}
	}
	return head
}

func (head *link) rows() [][]int {
	var rows [][]int
	for row := range api.MaxRows {
		var keys []int
		for n := head.next[row]; n != nil; n = n.next[row] {
			keys = append(keys, n.key)
		}
		if len(keys) > 0 {
			rows = append(rows, keys)
		}
	}
	return rows
}

func (head *link) path(key int) []api.Stop {
	var stops []api.Stop
	at := head
	for row := api.MaxRows - 1; row >= 0; row-- {
		for at.next[row] != nil && at.next[row].key < key {
			at = at.next[row]
			stops = append(stops, api.Stop{Row: row, Key: at.key})
		}
	}
	return stops
}

// bitwiseHeight goes bit by bit, as the promise is written.
func bitwiseHeight(key int) int {
	var x [64]bool
	for i := range x {
		x[i] = uint64(key)>>i&1 == 1
	}
	x = exchanged(x, 30)
	x = times(x, 0xbf58476d1ce4e5b9)
	x = exchanged(x, 27)
	x = times(x, 0x94d049bb133111eb)
	x = exchanged(x, 31)
	height := 1
	for height <= 64 && !x[height-1] {
		height++
	}
	return min(height, 12)
}

func exchanged(x [64]bool, by int) [64]bool {
	out := x
	for i := range len(x) - by {
		if x[i+by] {
			out[i] = !out[i]
		}
	}
	return out
}

// times adds x once for each bit of factor that is 1.
func times(x [64]bool, factor uint64) [64]bool {
	var sum [64]bool
	for shift := range 64 {
		if factor>>shift&1 == 0 {
			continue
		}
		carry := false
		for i := shift; i < 64; i++ {
			a, b := sum[i], x[i-shift]
			sum[i] = (a != b) != carry
			carry = a && b || carry && (a || b)
		}
	}
	return sum
}

// mixed has n keys, rising, from 0 to most, that follow from seed.
func mixed(seed uint32, n, most int) []int {
	var keys []int
	for len(keys) < n {
		seed = seed*1664525 + 1013904223
		keys = append(keys, int(seed>>4)%(most+1))
		slices.Sort(keys)
		keys = slices.Compact(keys)
	}
	return keys
}

func rising(first, n int) []int {
	keys := make([]int, n)
	for i := range keys {
		keys[i] = first + i
	}
	return keys
}

func sameRows(a, b [][]int) bool {
	return slices.EqualFunc(a, b, slices.Equal)
}

func sampleKeys() [][]int {
	lists := [][]int{nil, {}, {0}, {1}, {3}, {143}, {api.MaxKey}, {0, api.MaxKey}, {0, 143},
		rising(0, api.MaxKeys), rising(1, api.MaxKeys), rising(api.MaxKey-api.MaxKeys+1, api.MaxKeys)}
	for seed := range uint32(60) {
		lists = append(lists, mixed(seed, int(seed), 100), mixed(seed, int(seed)*3, api.MaxKey))
	}
	return lists
}

// notKeys are lists that Rows refuses, with what it tells of them.
func notKeys() map[api.Errno][][]int {
	unordered := rising(0, api.MaxKeys+1)
	unordered[3] = -1
	late := rising(0, api.MaxKeys)
	late[199] = 198
	return map[api.Errno][][]int{
		api.ErrLarge: {rising(0, api.MaxKeys+1), rising(0, 10_000), make([]int, 201), unordered},
		api.ErrForm: {{2, 2}, {2, 1}, {0, 0}, {1, 3, 2}, {1, 2, 2}, {5, 1, 9}, late, {-1}, {-1, 3}, {api.MaxKey + 1},
			{3, api.MaxKey + 1}, {math.MinInt}, {math.MaxInt}, {math.MinInt, 0, math.MaxInt}, make([]int, 200)},
	}
}

// P3.1

func TestHeight(t *testing.T) {
	// 0, 9478, 18956, 461906, 134636, -17260 and -55034 would be higher than
	// there are rows.
	want := map[int]int{
		0: 12, 1: 1, 2: 2, 3: 5, 4: 3, 5: 3, 6: 3, 7: 3, 8: 4, 9: 1, 83: 6, 165: 7, 69: 8,
		582: 9, 1164: 10, 2328: 11, 143: 12, 9478: 12, 18956: 12, 461906: 12, 134636: 12,
		999_999: 1, api.MaxKey: 2, api.MaxKey + 1: 3, 1 << 32: 1, 1 << 40: 4,
		-1: 1, -2: 2, -15: 3, -10: 4, -109: 5, -67: 6, -140: 7, -382: 8, -1200: 9, -2213: 10, -2944: 11,
		-2486: 12, -17260: 12, -55034: 12, math.MinInt: 2, math.MaxInt: 1,
	}
	for key, height := range want {
		if got := Height(key); got != height {
			t.Errorf("%v: %v, want %v", key, got, height)
		}
	}
}

func TestHeightBitByBit(t *testing.T) {
	for i := -3000; i < 3000; i++ {
		for _, key := range []int{i, i * 331, i << 40, i * 0x123456789abcdf, math.MaxInt - i} {
			if got, want := Height(key), bitwiseHeight(key); got != want {
				t.Fatalf("%v: %v, want %v", key, got, want)
			}
		}
	}
}

// P3.2

func TestRows(t *testing.T) {
	cases := []struct {
		keys []int
		want [][]int
	}{
		{nil, nil},
		{[]int{}, nil},
		{[]int{1}, [][]int{{1}}},
		{[]int{9, 10, 11}, [][]int{{9, 10, 11}}},
		{[]int{2}, [][]int{{2}, {2}}},
		{[]int{1, 2, 3, 4, 5}, [][]int{{1, 2, 3, 4, 5}, {2, 3, 4, 5}, {3, 4, 5}, {3}, {3}}},
		{[]int{1, 8, 9, 24, 26}, [][]int{{1, 8, 9, 24, 26}, {8, 24}, {8, 24}, {8, 24}}},
		{[]int{0, 2328, 999_999}, [][]int{{0, 2328, 999_999}, {0, 2328}, {0, 2328}, {0, 2328}, {0, 2328},
			{0, 2328}, {0, 2328}, {0, 2328}, {0, 2328}, {0, 2328}, {0, 2328}, {0}}},
		{[]int{0, api.MaxKey}, [][]int{{0, api.MaxKey}, {0, api.MaxKey}, {0}, {0}, {0}, {0}, {0}, {0}, {0}, {0}, {0}, {0}}},
	}
	for _, c := range cases {
		if got, err := Rows(c.keys); !sameRows(got, c.want) || err != api.OK {
			t.Errorf("%v: %v %v, want %v", c.keys, got, err, c.want)
		}
	}
}

func TestRowsAreTheLinkedOnes(t *testing.T) {
	for _, keys := range sampleKeys() {
		got, err := Rows(keys)
		if want := linked(keys).rows(); !sameRows(got, want) || err != api.OK {
			t.Errorf("%v: %v %v, want %v", keys, got, err, want)
		}
	}
}

func TestRowsOfOthers(t *testing.T) {
	for want, lists := range notKeys() {
		for _, keys := range lists {
			if got, err := Rows(keys); got != nil || err != want {
				t.Errorf("%v: %v %v, want %v", keys, got, err, want)
			}
		}
	}
}

// P3.3

func TestPath(t *testing.T) {
	few := []int{1, 2, 3, 4, 5, 9, 10}
	cases := []struct {
		keys []int
		key  int
		want []api.Stop
	}{
		{nil, 0, nil},
		{nil, api.MaxKey, nil},
		{[]int{1}, 1, nil},
		{[]int{1}, 2, []api.Stop{{Row: 0, Key: 1}}},
		{[]int{0}, 0, nil},
		{[]int{0}, 1, []api.Stop{{Row: 11, Key: 0}}},
		{[]int{api.MaxKey}, api.MaxKey, nil},
		{few, 0, nil},
		{few, 1, nil},
		{few, 2, []api.Stop{{Row: 0, Key: 1}}},
		{few, 3, []api.Stop{{Row: 1, Key: 2}}},
		{few, 4, []api.Stop{{Row: 4, Key: 3}}},
		{few, 5, []api.Stop{{Row: 4, Key: 3}, {Row: 2, Key: 4}}},
		{few, 8, []api.Stop{{Row: 4, Key: 3}, {Row: 2, Key: 4}, {Row: 2, Key: 5}}},
		{few, 10, []api.Stop{{Row: 4, Key: 3}, {Row: 2, Key: 4}, {Row: 2, Key: 5}, {Row: 0, Key: 9}}},
		{few, api.MaxKey, []api.Stop{{Row: 4, Key: 3}, {Row: 2, Key: 4}, {Row: 2, Key: 5}, {Row: 0, Key: 9}, {Row: 0, Key: 10}}},
	}
	for _, c := range cases {
		if got, err := Path(c.keys, c.key); !slices.Equal(got, c.want) || err != api.OK {
			t.Errorf("%v %v: %v %v, want %v", c.keys, c.key, got, err, c.want)
		}
	}
}

func TestPathIsTheLinkedOne(t *testing.T) {
	for _, keys := range sampleKeys() {
		head := linked(keys)
		asked := []int{0, 1, 50, 100, 101, 5000, api.MaxKey - 1, api.MaxKey}
		for _, key := range keys {
			asked = append(asked, key, max(key-1, 0), min(key+1, api.MaxKey))
		}
		for _, key := range asked {
			got, err := Path(keys, key)
			if want := head.path(key); !slices.Equal(got, want) || err != api.OK {
				t.Fatalf("%v %v: %v %v, want %v", keys, key, got, err, want)
			}
		}
	}
}

func TestPathTellsErrors(t *testing.T) {
	for want, lists := range notKeys() {
		for _, keys := range lists {
			for _, key := range []int{-1, 0, 2, api.MaxKey + 1} {
				if got, err := Path(keys, key); got != nil || err != want {
					t.Errorf("%v %v: %v %v, want %v", keys, key, got, err, want)
				}
			}
		}
	}
	for _, keys := range sampleKeys() {
		for _, key := range []int{math.MinInt, -1, api.MaxKey + 1, math.MaxInt} {
			if got, err := Path(keys, key); got != nil || err != api.ErrArg {
				t.Errorf("%v %v: %v %v", keys, key, got, err)
			}
		}
	}
}

// someOps has n ops of all kinds, and of some that are none, that follow from seed.
func someOps(seed uint32, n, most int) []api.Op {
	ops := make([]api.Op, n)
	for i := range ops {
		seed = seed*1664525 + 1013904223
		kind := int(seed>>8) % 14
		if kind > api.KNth+1 {
			kind = api.KPut
		}
		seed = seed*1664525 + 1013904223
		ops[i] = api.Op{Kind: kind, Key: int(seed>>8)%(most+2) - 1, Value: i}
	}
	return ops
}

func TestRun(t *testing.T) {
	ops := []api.Op{{Kind: api.KPut, Key: 3, Value: 30}, {Kind: api.KPut, Key: 1, Value: 10}, {Kind: api.KPut, Key: 2, Value: 20},
		{Kind: api.KGet, Key: 3}, {Kind: api.KCut, Key: 3}, {Kind: api.KPut, Key: -1}, {Kind: api.KNext, Key: 1}}
	rows, answers, err := Run(ops)
	want := []api.Ans{{}, {}, {}, {Value: 30, Is: true}, {Value: 30, Is: true}, {Err: api.ErrArg}, {Key: 2, Value: 20, Is: true}}
	if !sameRows(rows, [][]int{{1, 2}, {2}}) || !slices.Equal(answers, want) || err != api.OK {
		t.Error(rows, answers, err)
	}
}

func TestRunAnswersAsPlain(t *testing.T) {
	for seed := range uint32(80) {
		ops := someOps(seed, min(int(seed)*5, api.MaxOps), []int{20, 200, api.MaxKey}[seed%3])
		pairs, want, _ := plain.Run(ops)
		var keys []int
		for _, p := range pairs {
			keys = append(keys, p.Key)
		}
		rows, answers, err := Run(ops)
		if !sameRows(rows, linked(keys).rows()) || !slices.Equal(answers, want) || err != api.OK {
			t.Errorf("%v: %v %v %v", seed, rows, answers, err)
		}
	}
}

func TestRunAtItsLimits(t *testing.T) {
	puts := make([]api.Op, api.MaxOps+1)
	for i := range puts {
		puts[i] = api.Op{Kind: api.KPut, Key: i}
	}
	for _, n := range []int{0, api.MaxKeys, api.MaxOps} {
		rows, answers, err := Run(puts[:n])
		if !sameRows(rows, linked(rising(0, min(n, api.MaxKeys))).rows()) || len(answers) != n || err != api.OK {
			t.Error(n, rows, answers, err)
		}
		if n == api.MaxOps && answers[api.MaxKeys] != (api.Ans{Err: api.ErrLarge}) {
			t.Error(answers[api.MaxKeys])
		}
	}
	for _, ops := range [][]api.Op{puts, make([]api.Op, 100_000)} {
		if rows, answers, err := Run(ops); rows != nil || answers != nil || err != api.ErrLarge {
			t.Error(len(ops), rows, answers, err)
		}
	}
}

// What was there in between leaves nothing behind.
func TestRowsTellNothingOfWhatWasAhead(t *testing.T) {
	keys := mixed(9, 40, 300)
	var there, back, busy []api.Op
	for i, key := range keys {
		last := keys[len(keys)-1-i]
		there = append(there, api.Op{Kind: api.KPut, Key: key})
		back = append(back, api.Op{Kind: api.KPut, Key: last})
		busy = append(busy, api.Op{Kind: api.KPut, Key: key + 1000}, api.Op{Kind: api.KPut, Key: last},
			api.Op{Kind: api.KCut, Key: last}, api.Op{Kind: api.KCut, Key: key + 1000}, api.Op{Kind: api.KPut, Key: last})
	}
	want, _ := Rows(keys)
	for i, ops := range [][]api.Op{there, back, busy} {
		if rows, _, err := Run(ops); !sameRows(rows, want) || err != api.OK {
			t.Error(i, rows, err)
		}
	}
}

// P1

func TestNothingPanics(t *testing.T) {
	numbers := []int{math.MinInt, math.MinInt + 1, -1, 0, 1, 2, 3, 8,
		api.MaxKey, api.MaxKey + 1, math.MaxInt - 1, math.MaxInt}
	lists := [][]int{nil, {}, make([]int, 100_000)}
	for _, a := range numbers {
		Height(a)
		for _, b := range numbers {
			lists = append(lists, []int{a, b})
			for _, c := range numbers {
				lists = append(lists, []int{a, b, c})
				Run([]api.Op{{Kind: api.KPut, Key: b, Value: c}, {Kind: a, Key: b, Value: c}, {Kind: a, Key: c, Value: b}})
			}
		}
	}
	for _, keys := range lists {
		Rows(keys)
		for _, number := range numbers {
			Path(keys, number)
		}
	}
	Run(nil)
}

// P2

// withRoom has the items of l, and room behind them that is filled with spare.
func withRoom[T any](l []T, spare T) []T {
	wide := slices.Clone(l)
	for range 5 {
		wide = append(wide, spare)
	}
	return wide[:len(l)]
}

// spoil writes over all of l, spare room included.
func spoil[T any](l []T, junk T) {
	l = l[:cap(l)]
	for i := range l {
		l[i] = junk
	}
}

// testRowsApart fills each row with a mark of its own, spare room included:
// where two share memory, the later mark stands in the earlier row.
func testRowsApart(t *testing.T, rows [][]int) {
	t.Helper()
	for i, row := range rows {
		spoil(row, -1-i)
	}
	for i, row := range rows {
		for _, key := range row[:cap(row)] {
			if key != -1-i {
				t.Fatal("two rows share memory", i, key)
			}
		}
	}
	spoil(rows, []int{-77})
}

func TestMemoryOfRowsAndPath(t *testing.T) {
	lists := append(sampleKeys(), []int{2, 2}, rising(0, api.MaxKeys+1))
	for _, list := range lists {
		keys := withRoom(list, 77)
		whole := keys[:cap(keys)]
		ahead := slices.Clone(whole)
		wantRows, _ := Rows(list)
		wantPath, _ := Path(list, 60)
		rows, _ := Rows(keys)
		path, _ := Path(keys, 60)
		testRowsApart(t, rows)
		spoil(path, api.Stop{Row: -7, Key: -7})
		if !slices.Equal(whole, ahead) {
			t.Fatal("changed or answered what was handed in", list)
		}
		againRows, _ := Rows(keys)
		againPath, _ := Path(keys, 60)
		if !sameRows(againRows, wantRows) || !slices.Equal(againPath, wantPath) {
			t.Fatal("kept something", list)
		}
	}
}

func TestMemoryOfRun(t *testing.T) {
	for seed := range uint32(20) {
		ops := withRoom(someOps(seed, int(seed)*10, 200), api.Op{Kind: api.KPut, Key: 7})
		whole := ops[:cap(ops)]
		ahead := slices.Clone(whole)
		wantRows, wantAnswers, _ := Run(slices.Clone(ops))
		rows, answers, _ := Run(ops)
		testRowsApart(t, rows)
		spoil(answers, api.Ans{Key: -7})
		if !slices.Equal(whole, ahead) {
			t.Fatal("changed what was handed in", seed)
		}
		againRows, againAnswers, _ := Run(ops)
		if !sameRows(againRows, wantRows) || !slices.Equal(againAnswers, wantAnswers) {
			t.Fatal("kept something", seed)
		}
	}
}
