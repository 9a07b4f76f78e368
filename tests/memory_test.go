package tests

import (
	"slices"
	"testing"
)

// mark stands in all memory that a call must not touch.
const mark = -77

// withRoom copies lists into slices with marked room behind their numbers, the
// outer slice too, so that an append to one of them is seen.
func withRoom(given [][]int) [][]int {
	out := make([][]int, len(given), len(given)+2)
	for i, list := range given {
		room := make([]int, len(list)+4)
		copy(room, list)
		for k := len(list); k < len(room); k++ {
			room[k] = mark
		}
		out[i] = room[:len(list)]
	}
	full := out[:cap(out)]
	for i := len(given); i < len(full); i++ {
		full[i] = []int{mark}
	}
	return out
}

// whole copies lists together with what is in the room behind them.
func whole(given [][]int) [][]int {
	var out [][]int
	for _, list := range given[:cap(given)] {
		out = append(out, slices.Clone(list[:cap(list)]))
	}
	return out
}

// copies copies lists without the room behind them.
func copies(given [][]int) [][]int {
	var out [][]int
	for _, list := range given {
		out = append(out, slices.Clone(list))
	}
	return out
}

func sameLists(a [][]int, b [][]int) bool {
	return slices.EqualFunc(a, b, slices.Equal[[]int])
}

// checkApart calls a function of lists, whose results are lists too, and fails
// the test if the call changes what it was given, if a result shares memory
// with an argument or with another result, or if the next call is another one
// because something was kept.
func checkApart(t *testing.T, name string, given [][]int, call func(given [][]int) [][]int) {
	t.Helper()
	args := withRoom(given)
	before := whole(args)
	results := call(args)
	want := copies(results)
	if !sameLists(whole(args), before) {
		t.Fatalf("%s changed its argument %v", name, given)
	}
	for i, list := range results {
		fill(list, mark-1-i)
	}
	for i, list := range results {
		if slices.ContainsFunc(list[:cap(list)], func(x int) bool { return x != mark-1-i }) {
			t.Fatalf("%s of %v: two results share memory", name, given)
		}
	}
	filled := slices.Clone(results)
	outer := results[:cap(results)]
	for i := range outer {
		outer[i] = []int{mark - 1}
	}
	if !sameLists(whole(args), before) {
		t.Fatalf("%s of %v: a result shares memory with an argument", name, given)
	}
	if again := call(args); !sameLists(again, want) {
		t.Fatalf("%s of %v returned %v and then %v", name, given, want, again)
	}
	checkLeft(t, name, given, filled, outer)
}

// checkLeft fails the test if a later call wrote over what checkApart put into
// the lists of the call ahead of it, or into the slice of these lists.
func checkLeft(t *testing.T, name string, given [][]int, filled [][]int, outer [][]int) {
	t.Helper()
	for i, list := range filled {
		if slices.ContainsFunc(list[:cap(list)], func(x int) bool { return x != mark-1-i }) {
			t.Fatalf("%s of %v: the results of two calls share memory", name, given)
		}
	}
	for _, list := range outer {
		if !slices.Equal(list, []int{mark - 1}) {
			t.Fatalf("%s of %v: the results of two calls share memory", name, given)
		}
	}
}

// fill writes a number over a list and the room behind it.
func fill(list []int, number int) {
	full := list[:cap(list)]
	for i := range full {
		full[i] = number
	}
}

// one makes the results of a call that returns one list.
func one(list []int, _ bool) [][]int {
	return [][]int{list}
}

// none makes the results of a call that returns no list.
func none(...any) [][]int {
	return nil
}

// question is one call of a function, whose answer is all its results as text.
type question struct {
	name string
	ask  func() string
}

// checkAgain asks all questions, each one again at once and then after others in
// several orders, and fails the test if an answer is another one than at first.
func checkAgain(t *testing.T, all []question) {
	t.Helper()
	first := make([]string, len(all))
	for i, q := range all {
		first[i] = q.ask()
		if answer := q.ask(); answer != first[i] {
			t.Fatalf("%s returned %s and then %s", q.name, first[i], answer)
		}
	}
	again := func(i int) {
		if answer := all[i].ask(); answer != first[i] {
			t.Fatalf("%s returned %s and, after other questions, %s", all[i].name, first[i], answer)
		}
	}
	for i := len(all) - 1; i >= 0; i-- {
		again(i)
	}
	for i := range all {
		again((i*i + 7) % len(all))
		again((i*131 + 5) % len(all))
	}
}
