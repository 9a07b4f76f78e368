package tests

import (
	"fmt"
	"math"
	"slices"
	"testing"

	"loop.example/setparts/impl"
)

// The greatest numbers that the document allows, written out as in most.
const (
	mostNumber = 12
	mostPower  = 9
)

// numberFunction is one of the functions of n things and k blocks.
type numberFunction struct {
	name string
	ask  func(n int, k int) (int, bool)
}

func numberFunctions() []numberFunction {
	return []numberFunction{
		{"NumberBlocks", impl.NumberBlocks},
		{"NumberRings", impl.NumberRings},
		{"NumberRows", impl.NumberRows},
		{"NumberGreat", impl.NumberGreat},
		{"NumberMaps", impl.NumberMaps},
	}
}

// powerBy returns x to the power of n, 1 for 0 to the power of 0.
func powerBy(x int, n int) int {
	out := 1
	for range n {
		out *= x
	}
	return out
}

func factorial(n int) int {
	out := 1
	for i := 2; i <= n; i++ {
		out *= i
	}
	return out
}

// choices returns the ways to choose k of n.
func choices(n int, k int) int {
	if k < 0 || k > n {
		return 0
	}
	return factorial(n) / factorial(k) / factorial(n-k)
}

// turned returns 1, or -1 for an odd number.
func turned(n int) int {
	return 1 - 2*(n%2)
}

// mapsBy takes from all ways to give numbers those that leave some out.
func mapsBy(n int, k int) int {
	sum := 0
	for out := 0; out <= k; out++ {
		sum += turned(out) * choices(k, out) * powerBy(k-out, n)
	}
	return sum
}

// blocksBy leaves out which block has which number.
func blocksBy(n int, k int) int {
	return mapsBy(n, k) / factorial(k)
}

// ringsBy returns a coefficient of the product of x, x + 1 and so on, n factors.
func ringsBy(n int, k int) int {
	row := []int{1}
	for i := range n {
		next := make([]int, len(row)+1)
		for power, number := range row {
			next[power+1] += number
			next[power] += i * number
		}
		row = next
	}
	if k >= len(row) {
		return 0
	}
	return row[k]
}

// rowsBy cuts a list of all things at k - 1 of n - 1 places, and leaves out the order.
func rowsBy(n int, k int) int {
	if n == 0 || k == 0 {
		return choices(n, k) * choices(k, n)
	}
	return factorial(n) / factorial(k) * choices(n-1, k-1)
}

// greatBy takes from all partitions those with things alone.
func greatBy(n int, k int) int {
	sum := 0
	for alone := 0; alone <= min(n, k); alone++ {
		sum += turned(alone) * choices(n, alone) * blocksBy(n-alone, k-alone)
	}
	return sum
}

// typeBy leaves out the order of the things of each block, and that of blocks of one size.
func typeBy(list []int) int {
	sum, orders := 0, 1
	alike := map[int]int{}
	for _, size := range list {
		sum += size
		orders *= factorial(size)
		alike[size]++
		orders *= alike[size]
	}
	return factorial(sum) / orders
}

// typesOf returns all types with a sum, none of whose sizes is greater than a number.
func typesOf(sum int, greatest int) [][]int {
	if sum == 0 {
		return [][]int{{}}
	}
	var out [][]int
	for size := 1; size <= min(sum, greatest); size++ {
		for _, behind := range typesOf(sum-size, size) {
			out = append(out, append([]int{size}, behind...))
		}
	}
	return out
}

// allTypes returns the types of each sum.
func allTypes() [][]int {
	var out [][]int
	for sum := 0; sum <= mostNumber; sum++ {
		out = append(out, typesOf(sum, sum)...)
	}
	return out
}

// isType is the document's definition, word by word.
func isType(list []int) bool {
	sum := 0
	for i, size := range list {
		if size < 1 || size > mostNumber || i > 0 && size > list[i-1] {
			return false
		}
		sum += size
	}
	return len(list) <= mostNumber && sum <= mostNumber
}

// wrongNumbers returns numbers that are neither things nor blocks nor sizes.
func wrongNumbers() []int {
	return append([]int{mostNumber + 1, mostNumber + 2, 64, 268}, farNumbers...)
}

// ones returns a number of ones.
func ones(n int) []int {
	return slices.Repeat([]int{1}, n)
}

// wrongTypes returns lists that are no types.
func wrongTypes() [][]int {
	wrong := [][]int{
		{0}, {-1}, {13}, {0, 0}, {1, 0}, {3, 2, 0}, {12, 0}, {12, -1}, {13, -1}, {6, 6, 1, -1}, {-1, -1}, {3, -1, -2},
		{1, 2}, {1, 12}, {2, 1, 2}, {2, 3, 1}, {3, 3, 4}, {1, 1, 1, 2}, {5, 6}, {11, 12},
		{12, 1}, {12, 12}, {7, 6}, {6, 6, 1}, {4, 4, 4, 1}, {3, 3, 3, 3, 1}, {2, 2, 2, 2, 2, 2, 1}, {5, 4, 3, 1}, {2, 1, 1, 1, 1, 1, 1, 1, 1, 1, 1, 1},
		ones(13), ones(14), ones(64), ones(256), ones(268), make([]int, 12), make([]int, 13), make([]int, 300),
		{math.MaxInt, math.MaxInt, 2}, {math.MaxInt, math.MaxInt, 3}, {1 << 62, 1 << 62, 1 << 62, 1 << 62}, {math.MaxInt, math.MinInt},
	}
	for _, far := range wrongNumbers() {
		wrong = append(wrong, []int{far}, []int{far, 1}, []int{1, far}, []int{6, far, 1}, []int{12, far}, []int{far, far})
	}
	return wrong
}

// wrongFor calls for all two numbers of which one at least is not in its range.
func wrongFor(greatest int, check func(n int, k int)) {
	wrong := append([]int{greatest + 1, greatest + 2}, farNumbers...)
	for _, out := range wrong {
		for in := range greatest + 1 {
			check(out, in)
			check(in, out)
		}
		for _, other := range wrong {
			check(out, other)
		}
	}
}

// checkNumbers asks a function for all numbers of things and blocks, and for
// wrong ones. What it wants comes by a formula, which is not the way of the program.
func checkNumbers(t *testing.T, name string, ask func(n int, k int) (int, bool), want func(n int, k int) int) {
	t.Helper()
	for n := range mostNumber + 1 {
		for k := range mostNumber + 1 {
			got, ok := ask(n, k)
			mustCount(t, want(n, k), got, ok, name, n, k)
		}
	}
	wrongFor(mostNumber, func(n int, k int) {
		got, ok := ask(n, k)
		mustFailCount(t, got, ok, name, n, k)
	})
}

// numberOf asks for a number that there must be.
func numberOf(t *testing.T, name string, ask func(n int, k int) (int, bool), n int, k int) int {
	t.Helper()
	got, ok := ask(n, k)
	if !ok {
		t.Fatalf("%s of %d and %d fails", name, n, k)
	}
	return got
}

// Promise 21.
func TestNumberBlocks(t *testing.T) {
	checkNumbers(t, "NumberBlocks", impl.NumberBlocks, blocksBy)
	for n := range mostNumber + 1 {
		for k := range mostNumber + 1 {
			blocks := numberOf(t, "NumberBlocks", impl.NumberBlocks, n, k)
			rings := numberOf(t, "NumberRings", impl.NumberRings, n, k)
			rows := numberOf(t, "NumberRows", impl.NumberRows, n, k)
			if blocks > rings || rings > rows {
				t.Fatalf("%d and %d: %d with blocks, %d with rings, %d with rows", n, k, blocks, rings, rows)
			}
			for _, number := range []int{blocks, rings, rows} {
				if k > n && number != 0 || k == n && number != 1 {
					t.Fatalf("%d and %d: %d with blocks, %d with rings, %d with rows", n, k, blocks, rings, rows)
				}
			}
		}
	}
	for k, want := range []int{0, 1, 2047, 86526, 611501, 1379400, 1323652, 627396, 159027, 22275, 1705, 66, 1} {
		got, ok := impl.NumberBlocks(12, k)
		mustCount(t, want, got, ok, "NumberBlocks", 12, k)
	}
}

// Promise 22.
func TestNumberAll(t *testing.T) {
	for n, want := range []int{1, 1, 2, 5, 15, 52, 203, 877, 4140, 21147, 115975, 678570, 4213597} {
		got, ok := impl.NumberAll(n)
		mustCount(t, want, got, ok, "NumberAll", n)
		sum := 0
		for k := 0; k <= n; k++ {
			sum += numberOf(t, "NumberBlocks", impl.NumberBlocks, n, k)
		}
		mustCount(t, sum, got, ok, "NumberAll", n)
	}
	for _, n := range wrongNumbers() {
		got, ok := impl.NumberAll(n)
		mustFailCount(t, got, ok, "NumberAll", n)
	}
}

// Promise 23.
func TestNumberType(t *testing.T) {
	for _, list := range allTypes() {
		got, ok := impl.NumberType(list)
		mustCount(t, typeBy(list), got, ok, "NumberType", list)
		sum := 0
		for _, size := range list {
			sum += size
		}
		if all, ok := impl.NumberAll(sum); !ok || got > all {
			t.Fatalf("NumberType of %v returned %d, of %d", list, got, all)
		}
		if (got == 1) != (slices.Equal(list, ones(len(list))) || len(list) <= 1) {
			t.Fatalf("NumberType of %v returned %d", list, got)
		}
	}
	cases := []struct {
		list []int
		want int
	}{
		{nil, 1}, {[]int{}, 1}, {[]int{1}, 1}, {[]int{12}, 1}, {ones(12), 1}, {[]int{2, 1}, 3}, {[]int{2, 2}, 3}, {[]int{3, 2, 1}, 60},
		{[]int{6, 6}, 462}, {[]int{11, 1}, 12}, {[]int{2, 2, 2, 2, 2, 2}, 10395}, {[]int{4, 4, 4}, 5775}, {[]int{3, 3, 3, 3}, 15400},
		{[]int{4, 3, 2, 1, 1, 1}, 12 * 11 * 10 * 9 / 24 * 56 * 10}, {[]int{2, 1, 1, 1, 1, 1, 1, 1, 1, 1, 1}, 66},
	}
	for _, c := range cases {
		got, ok := impl.NumberType(c.list)
		mustCount(t, c.want, got, ok, "NumberType", c.list)
	}
}

// Rule of the document: the partitions of n things are as many as those of all types with this sum, and of those with k sizes.
func TestNumberTypeSums(t *testing.T) {
	for n := range mostNumber + 1 {
		with := make([]int, n+1)
		for _, list := range typesOf(n, n) {
			got, ok := impl.NumberType(list)
			if !ok {
				t.Fatalf("NumberType of %v fails", list)
			}
			with[len(list)] += got
		}
		for k, want := range with {
			got, ok := impl.NumberBlocks(n, k)
			mustCount(t, want, got, ok, "NumberBlocks", n, k)
		}
	}
}

func TestNumberTypeFails(t *testing.T) {
	for _, list := range wrongTypes() {
		if isType(list) {
			t.Fatalf("the test tells a type as a wrong one: %v", list)
		}
		got, ok := impl.NumberType(list)
		mustFailCount(t, got, ok, "NumberType", list)
	}
	for length := 0; length <= 3; length++ {
		for _, list := range lists(length, -1, mostNumber+2) {
			if got, ok := impl.NumberType(list); ok != isType(list) || !ok && got != 0 {
				t.Fatalf("NumberType of %v returned %d, %v", list, got, ok)
			}
		}
	}
	for _, list := range allTypes() {
		sum := 0
		for _, size := range list {
			sum += size
		}
		// As many ones as the sum allows, and one more.
		for more := range mostNumber + 2 - sum {
			longer := append(slices.Clone(list), ones(more)...)
			if got, ok := impl.NumberType(longer); ok != (sum+more <= mostNumber) || !ok && got != 0 {
				t.Fatalf("NumberType of %v returned %d, %v", longer, got, ok)
			}
		}
	}
}

// Promise 24.
func TestNumberRings(t *testing.T) {
	checkNumbers(t, "NumberRings", impl.NumberRings, ringsBy)
	for n := range mostNumber + 1 {
		sum := 0
		for k := 0; k <= n; k++ {
			sum += numberOf(t, "NumberRings", impl.NumberRings, n, k)
		}
		if sum != factorial(n) {
			t.Fatalf("the numbers of rings of %d things add up to %d, want %d", n, sum, factorial(n))
		}
	}
	for k, want := range []int{0, 39916800, 120543840, 150917976, 105258076, 45995730, 13339535, 2637558, 357423, 32670, 1925, 66, 1} {
		got, ok := impl.NumberRings(12, k)
		mustCount(t, want, got, ok, "NumberRings", 12, k)
	}
}

// Promise 25.
func TestNumberRingsUndo(t *testing.T) {
	for n := range mostNumber + 1 {
		for k := 0; k <= n; k++ {
			sum := 0
			for j := k; j <= n; j++ {
				sum += turned(n-j) * numberOf(t, "NumberRings", impl.NumberRings, n, j) * numberOf(t, "NumberBlocks", impl.NumberBlocks, j, k)
			}
			if want := choices(k, n); sum != want {
				t.Fatalf("rings of %d things and blocks, %d of them, add up to %d, want %d", n, k, sum, want)
			}
		}
	}
}

// Promise 26.
func TestNumberRows(t *testing.T) {
	checkNumbers(t, "NumberRows", impl.NumberRows, rowsBy)
	for n := range mostNumber + 1 {
		for k := range mostNumber + 1 {
			sum := 0
			for j := k; j <= n; j++ {
				sum += numberOf(t, "NumberRings", impl.NumberRings, n, j) * numberOf(t, "NumberBlocks", impl.NumberBlocks, j, k)
			}
			got, ok := impl.NumberRows(n, k)
			mustCount(t, sum, got, ok, "NumberRows", n, k)
		}
	}
	for k, want := range []int{0, 479001600, 2634508800, 4390848000, 3293136000, 1317254400, 307359360, 43908480, 3920400, 217800, 7260, 132, 1} {
		got, ok := impl.NumberRows(12, k)
		mustCount(t, want, got, ok, "NumberRows", 12, k)
	}
}

// Promise 27.
func TestNumberGreat(t *testing.T) {
	checkNumbers(t, "NumberGreat", impl.NumberGreat, greatBy)
	for n := range mostNumber + 1 {
		for k := range mostNumber + 1 {
			got, ok := impl.NumberGreat(n, k)
			if blocks := numberOf(t, "NumberBlocks", impl.NumberBlocks, n, k); !ok || got > blocks {
				t.Fatalf("NumberGreat of %d and %d returned %d, %v, of %d", n, k, got, ok, blocks)
			}
			if (got == 0) != (n < 2*k || k == 0 && n != 0) {
				t.Fatalf("NumberGreat of %d and %d returned %d", n, k, got)
			}
		}
	}
	for k, want := range []int{0, 1, 2035, 74316, 302995, 190575, 10395, 0, 0, 0, 0, 0, 0} {
		got, ok := impl.NumberGreat(12, k)
		mustCount(t, want, got, ok, "NumberGreat", 12, k)
	}
}

// Promise 28.
func TestNumberMaps(t *testing.T) {
	checkNumbers(t, "NumberMaps", impl.NumberMaps, mapsBy)
	for n := range mostPower + 1 {
		for k := range mostPower + 1 {
			sum := 0
			for j := 0; j <= k; j++ {
				sum += numberOf(t, "NumberMaps", impl.NumberMaps, n, j) * choices(k, j)
			}
			got, ok := impl.NumberPower(k, n)
			mustCount(t, sum, got, ok, "NumberPower", k, n)
		}
	}
	for n := range mostNumber + 1 {
		for k := range mostNumber + 1 {
			got, ok := impl.NumberMaps(n, k)
			mustCount(t, factorial(k)*numberOf(t, "NumberBlocks", impl.NumberBlocks, n, k), got, ok, "NumberMaps", n, k)
		}
	}
}

// Promise 29.
func TestNumberPower(t *testing.T) {
	for x := range mostPower + 1 {
		for n := range mostPower + 1 {
			got, ok := impl.NumberPower(x, n)
			mustCount(t, powerBy(x, n), got, ok, "NumberPower", x, n)
		}
	}
	for _, c := range [][3]int{{0, 0, 1}, {0, 1, 0}, {0, 9, 0}, {1, 9, 1}, {9, 0, 1}, {9, 1, 9}, {2, 9, 512}, {9, 2, 81}, {9, 9, 387420489}} {
		got, ok := impl.NumberPower(c[0], c[1])
		mustCount(t, c[2], got, ok, "NumberPower", c[0], c[1])
	}
	wrongFor(mostPower, func(x int, n int) {
		got, ok := impl.NumberPower(x, n)
		mustFailCount(t, got, ok, "NumberPower", x, n)
	})
	// What the other functions allow is too much here.
	for wrong := mostPower + 1; wrong <= mostNumber; wrong++ {
		for _, c := range [][2]int{{wrong, 0}, {0, wrong}, {wrong, 2}, {2, wrong}, {wrong, wrong}} {
			got, ok := impl.NumberPower(c[0], c[1])
			mustFailCount(t, got, ok, "NumberPower", c)
		}
	}
}

// Rule of the document: of no things there is one partition, with no blocks.
func TestNoThings(t *testing.T) {
	for _, f := range numberFunctions() {
		for k := range mostNumber + 1 {
			got, ok := f.ask(0, k)
			mustCount(t, choices(0, k), got, ok, f.name, 0, k)
			got, ok = f.ask(k, 0)
			mustCount(t, choices(0, k), got, ok, f.name, k, 0)
		}
	}
	got, ok := impl.NumberAll(0)
	mustCount(t, 1, got, ok, "NumberAll", 0)
	got, ok = impl.NumberType(nil)
	mustCount(t, 1, got, ok, "NumberType", nil)
}

// Rule of the document: the numbers count what it says, here all put together and counted.
func TestNumbersCounted(t *testing.T) {
	for n := range most + 1 {
		var blocks, rows, great [most + 2]int
		types := map[string]int{}
		for _, a := range partitions(n) {
			k, orders, least := blockTotal(a), 1, n
			sizes := []int{}
			for _, members := range blocksFrom(a) {
				orders *= factorial(len(members))
				least = min(least, len(members))
				sizes = append(sizes, len(members))
			}
			slices.SortFunc(sizes, func(x, y int) int { return y - x })
			types[textOf(sizes)]++
			blocks[k]++
			rows[k] += orders
			if least >= 2 || k == 0 {
				great[k]++
			}
		}
		for k := range blocks {
			got, ok := impl.NumberBlocks(n, k)
			mustCount(t, blocks[k], got, ok, "NumberBlocks", n, k)
			got, ok = impl.NumberRows(n, k)
			mustCount(t, rows[k], got, ok, "NumberRows", n, k)
			got, ok = impl.NumberGreat(n, k)
			mustCount(t, great[k], got, ok, "NumberGreat", n, k)
		}
		for _, list := range typesOf(n, n) {
			got, ok := impl.NumberType(list)
			mustCount(t, types[textOf(list)], got, ok, "NumberType", list)
		}
		all, ok := impl.NumberAll(n)
		mustCount(t, len(partitions(n)), all, ok, "NumberAll", n)
	}
}

// textOf makes a key of a list of sizes.
func textOf(sizes []int) string {
	out := ""
	for _, size := range sizes {
		out += string(rune('a' + size))
	}
	return out
}

// Rule of the document: a ring is told by which thing follows which, which a list of all things tells.
func TestNumberRingsCounted(t *testing.T) {
	for n := range most {
		var counts [most + 1]int
		for _, follows := range namings(n) {
			counts[ringTotal(follows)]++
		}
		for k, want := range counts {
			got, ok := impl.NumberRings(n, k)
			mustCount(t, want, got, ok, "NumberRings", n, k)
		}
	}
}

// ringTotal counts the rings in which things follow each other.
func ringTotal(follows []int) int {
	met := make([]bool, len(follows))
	total := 0
	for first := range follows {
		if met[first] {
			continue
		}
		total++
		for thing := first; !met[thing]; thing = follows[thing] {
			met[thing] = true
		}
	}
	return total
}

// Rule of the document: each of the numbers from 0 to k - 1 is given.
func TestNumberMapsCounted(t *testing.T) {
	for n := range 7 {
		for k := range 6 {
			want := 0
			for _, given := range lists(n, 0, k-1) {
				if blockTotal(given) == k {
					want++
				}
			}
			got, ok := impl.NumberMaps(n, k)
			mustCount(t, want, got, ok, "NumberMaps", n, k)
		}
	}
}

// numberQuestions returns calls of all functions of this chapter, wrong ones among them.
func numberQuestions() []question {
	var out []question
	asked := append(numberFunctions(), numberFunction{"NumberPower", impl.NumberPower})
	for n := -1; n <= mostNumber+1; n++ {
		for k := -1; k <= mostNumber+1; k++ {
			for _, f := range asked {
				out = append(out, question{f.name, func() string { return fmt.Sprint(f.ask(n, k)) }})
			}
		}
		out = append(out, question{"NumberAll", func() string { return fmt.Sprint(impl.NumberAll(n)) }})
	}
	for _, list := range append(allTypes(), wrongTypes()...) {
		out = append(out, question{"NumberType", func() string { return fmt.Sprint(impl.NumberType(list)) }})
	}
	return out
}

// Rule of the document: functions keep no state between calls, so that the same question has the same answer.
func TestNumbersAgain(t *testing.T) {
	checkAgain(t, numberQuestions())
}

// Rule of the document: arguments stay as they were, and only the numbers of a list are asked.
func TestNumbersMemory(t *testing.T) {
	for _, list := range append(allTypes(), wrongTypes()...) {
		checkApart(t, "NumberType", [][]int{list}, func(g [][]int) [][]int {
			number, ok := impl.NumberType(g[0])
			if ok != isType(list) {
				t.Fatalf("NumberType of %v returned %d, %v", list, number, ok)
			}
			return [][]int{{number}}
		})
	}
}
