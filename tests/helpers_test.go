package tests

import (
	"math"
	"slices"
	"testing"
)

// The most things that the document allows, written out so that a wrong constant is found.
const most = 8

// farNumbers are numbers far from every range that the document tells. Some of
// them come into range if they are cut to fewer bits.
var farNumbers = []int{math.MinInt, math.MinInt + 1, -1 << 32, -256, -9, -2, -1, 256, 1 << 32, 1<<32 + 1, math.MaxInt - 1, math.MaxInt}

// partitions returns all partitions of n things, made from the document's
// rule alone: each number at most 1 more than the greatest one ahead of it.
func partitions(n int) [][]int {
	if n == 0 {
		return [][]int{{}}
	}
	var out [][]int
	for _, a := range partitions(n - 1) {
		for number := 0; number <= blockTotal(a); number++ {
			out = append(out, append(slices.Clone(a), number))
		}
	}
	return out
}

// partitionsTo returns all partitions of 1 to n things.
func partitionsTo(n int) [][]int {
	var out [][]int
	for things := 1; things <= n; things++ {
		out = append(out, partitions(things)...)
	}
	return out
}

// blockTotal counts the different numbers of a list.
func blockTotal(a []int) int {
	met := map[int]bool{}
	for _, number := range a {
		met[number] = true
	}
	return len(met)
}

// isPartition is the document's definition, word by word.
func isPartition(a []int) bool {
	if len(a) < 1 || len(a) > most || a[0] != 0 {
		return false
	}
	for i := 1; i < len(a); i++ {
		if a[i] < 0 || a[i] > slices.Max(a[:i])+1 {
			return false
		}
	}
	return true
}

// lists returns all lists of n numbers from low to high.
func lists(n int, low int, high int) [][]int {
	if n == 0 {
		return [][]int{{}}
	}
	var out [][]int
	for _, ahead := range lists(n-1, low, high) {
		for number := low; number <= high; number++ {
			out = append(out, append(slices.Clone(ahead), number))
		}
	}
	return out
}

// namings returns all lists that have each of n things once.
func namings(n int) [][]int {
	if n == 0 {
		return [][]int{{}}
	}
	var out [][]int
	for _, p := range namings(n - 1) {
		for i := 0; i <= len(p); i++ {
			out = append(out, slices.Insert(slices.Clone(p), i, n-1))
		}
	}
	return out
}

// wrongPartitions returns lists that are no partitions.
func wrongPartitions() [][]int {
	wrong := [][]int{
		nil, {}, {1}, {-1}, {1, 0}, {0, 2}, {0, -1}, {0, 0, 2}, {0, 1, 3}, {0, 1, 0, 3}, {0, 1, 2, -1},
		{0, 1, 2, 3, 4, 5, 6, 8}, {0, 0, 0, 0, 0, 0, 0, 2}, {1, 2, 3}, {2, 1, 0},
		{0, 0, 0, 0, 0, 0, 0, 0, 0}, {0, 1, 2, 3, 4, 5, 6, 7, 8}, {0, 1, 0, 1, 0, 1, 0, 1, 0},
		make([]int, 64), make([]int, 300),
	}
	for _, far := range farNumbers {
		wrong = append(wrong, []int{far}, []int{0, far}, []int{0, 1, far, 1}, []int{0, 0, 1, 2, 1, 0, 3, far})
	}
	return wrong
}

// sameTogether reports whether two lists have equal numbers at the same pairs
// of places, the places of the second one being told by a list.
func sameTogether(a []int, b []int, places []int) bool {
	for i := range a {
		for k := range a {
			if (a[i] == a[k]) != (b[places[i]] == b[places[k]]) {
				return false
			}
		}
	}
	return true
}

// inOrder returns the numbers from 0 to n - 1.
func inOrder(n int) []int {
	out := make([]int, n)
	for i := range out {
		out[i] = i
	}
	return out
}

// mustFail fails the test unless a list came with false and is empty.
func mustFail(t *testing.T, got []int, ok bool, what string, given ...any) {
	t.Helper()
	if ok || len(got) != 0 {
		t.Fatalf("%s of %v returned %v, %v: want an empty list and false", what, given, got, ok)
	}
}

// mustBe fails the test unless a list came with true and is as wanted.
func mustBe(t *testing.T, want []int, got []int, ok bool, what string, given ...any) {
	t.Helper()
	if !ok || !slices.Equal(got, want) {
		t.Fatalf("%s of %v returned %v, %v: want %v and true", what, given, got, ok, want)
	}
}
