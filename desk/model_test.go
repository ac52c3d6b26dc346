package desk

import (
	"fmt"
	"maps"
	"regexp"
	"slices"
	"strconv"
	"strings"

	"hedgewright/api"
	"hedgewright/goat"
	"hedgewright/grow"
	"hedgewright/skip"
	"hedgewright/zip"
)

// What is no matter in a line, and the forms of what is left of it.
var (
	remark   = regexp.MustCompile(`(?s);.*`)
	blanks   = regexp.MustCompile(`[ \t]+`)
	putForm  = regexp.MustCompile(`^put ([0-9]{1,7}) ([0-9]{1,7})$`)
	keyForm  = regexp.MustCompile(`^(get|cut|next|prev|count|nth) ([0-9]{1,7})$`)
	pathForm = regexp.MustCompile(`^path ([0-9]{1,7})$`)
	treeForm = regexp.MustCompile(`^(tree|deep) (grow|zip|goat|even)$`)
)

// model is what Run is held against: it knows lines by their forms, and keeps
// what is there in a map of Go's.
type model struct {
	ops    []api.Op
	values map[int]int
}

func modelRun(text string) string {
	if len(text) > 8192 {
		return "error 2\n"
	}
	var lines []string
	for line := range strings.SplitSeq(text, "\n") {
		line = blanks.ReplaceAllString(remark.ReplaceAllString(line, ""), " ")
		if line = strings.Trim(line, " "); line != "" {
			lines = append(lines, line)
		}
	}
	if len(lines) > 100 {
		return "error 2\n"
	}
	m := model{values: map[int]int{}}
	told := ""
	for _, line := range lines {
		told += m.answer(line) + "\n"
	}
	return told
}

func (m *model) answer(line string) string {
	if f := putForm.FindStringSubmatch(line); f != nil {
		return m.do(api.Op{Kind: api.KPut, Key: number(f[1]), Value: number(f[2])})
	}
	if f := keyForm.FindStringSubmatch(line); f != nil {
		kinds := map[string]int{"get": 2, "cut": 3, "next": 4, "prev": 5, "count": 6, "nth": 7}
		return m.do(api.Op{Kind: kinds[f[1]], Key: number(f[2])})
	}
	if f := pathForm.FindStringSubmatch(line); f != nil && number(f[1]) <= 1000000 {
		return m.path(number(f[1]))
	}
	if f := treeForm.FindStringSubmatch(line); f != nil {
		return m.tree(f[1], f[2])
	}
	if line == "rows" {
		return m.rows()
	}
	return "error 1"
}

// number is one of few enough digits.
func number(digits string) int {
	n, _ := strconv.Atoi(digits)
	return n
}

func (m *model) keys() []int { return slices.Sorted(maps.Keys(m.values)) }

func (m *model) do(o api.Op) string {
	if o.Key > 1000000 && o.Kind <= 5 {
		return "error 1"
	}
	m.ops = append(m.ops, o)
	value, is := m.values[o.Key]
	switch {
	case o.Kind == api.KPut:
		m.values[o.Key] = o.Value
		return map[bool]string{false: "new", true: "old"}[is]
	case o.Kind == api.KCut:
		delete(m.values, o.Key)
	case o.Kind > api.KCut:
		return m.look(o)
	}
	if !is {
		return "none"
	}
	return fmt.Sprint(value)
}

func (m *model) look(o api.Op) string {
	var less, more []int
	for _, key := range m.keys() {
		if key < o.Key {
			less = append(less, key)
		} else if key > o.Key {
			more = append(more, key)
		}
	}
	var found []int
	switch o.Kind {
	case api.KNext:
		found = more[:min(len(more), 1)]
	case api.KPrev:
		found = less[max(len(less)-1, 0):]
	case api.KCount:
		return fmt.Sprint(len(less))
	case api.KNth:
		if o.Key < len(m.values) {
			found = m.keys()[o.Key : o.Key+1]
		}
	}
	if len(found) == 0 {
		return "none"
	}
	return fmt.Sprint(found[0], m.values[found[0]])
}

func (m *model) path(key int) string {
	stops, _ := skip.Path(m.keys(), key)
	var passed []int
	for _, s := range stops {
		passed = append(passed, s.Key)
	}
	return listed(passed)
}

func (m *model) rows() string {
	rows, _ := skip.Rows(m.keys())
	if len(rows) == 0 {
		return "none"
	}
	told := listed(rows[0])
	for _, row := range rows[1:] {
		told += "|" + listed(row)
	}
	return told
}

func (m *model) tree(ask, name string) string {
	var l []api.Spot
	switch name {
	case "grow":
		l, _, _ = grow.Run(m.ops)
	case "zip":
		l, _, _ = zip.Run(m.ops)
	case "goat":
		l, _, _, _ = goat.Run(m.ops)
	case "even":
		l, _ = goat.Even(m.keys())
	}
	if len(l) == 0 {
		return "none"
	}
	if ask == "tree" {
		return listed(nodeFirst(l))
	}
	return fmt.Sprint(slices.MaxFunc(l, byDepth).Depth)
}

func nodeFirst(l []api.Spot) []int {
	if len(l) == 0 {
		return nil
	}
	top := slices.Index(l, slices.MinFunc(l, byDepth))
	return slices.Concat([]int{l[top].Key}, nodeFirst(l[:top]), nodeFirst(l[top+1:]))
}

func byDepth(a, b api.Spot) int { return a.Depth - b.Depth }

func listed(numbers []int) string {
	if len(numbers) == 0 {
		return "none"
	}
	return strings.Trim(fmt.Sprint(numbers), "[]")
}
