package tests

import (
	"math"
	"slices"
	"testing"

	"loop.example/setparts/impl"
)

// blocksFrom returns the blocks of a partition, made from its definition.
func blocksFrom(a []int) [][]int {
	out := make([][]int, blockTotal(a))
	for thing, number := range a {
		out[number] = append(out[number], thing)
	}
	return out
}

func TestThingsMax(t *testing.T) {
	if impl.ThingsMax != most {
		t.Errorf("ThingsMax is %d, want %d", impl.ThingsMax, most)
	}
}

// Promise 1.
func TestPartIn(t *testing.T) {
	for n := 0; n <= 5; n++ {
		for _, list := range lists(n, -1, n+1) {
			if got := impl.PartIn(list); got != isPartition(list) {
				t.Fatalf("PartIn of %v is %v", list, got)
			}
		}
	}
	for _, list := range wrongPartitions() {
		if impl.PartIn(list) {
			t.Errorf("PartIn holds for %v", list)
		}
	}
	for _, a := range partitionsTo(most) {
		if !impl.PartIn(a) {
			t.Fatalf("PartIn does not hold for %v", a)
		}
		kernel, ok := impl.PartKernel(a)
		mustBe(t, a, kernel, ok, "PartKernel", a)
		blocks, ok := impl.PartBlocks(a)
		if !ok {
			t.Fatalf("PartBlocks of %v fails", a)
		}
		of, ok := impl.PartOf(len(a), blocks)
		mustBe(t, a, of, ok, "PartOf", len(a), blocks)
	}
	for _, a := range partitions(most + 1) {
		if impl.PartIn(a) {
			t.Fatalf("PartIn holds for more than ThingsMax things: %v", a)
		}
	}
}

// Promise 2.
func TestPartBlocks(t *testing.T) {
	for _, a := range partitionsTo(most) {
		blocks, ok := impl.PartBlocks(a)
		if !ok || !sameLists(blocks, blocksFrom(a)) {
			t.Fatalf("PartBlocks of %v returned %v, %v", a, blocks, ok)
		}
		size, ok := impl.PartSize(a)
		if !ok || size != len(blocks) {
			t.Fatalf("PartSize of %v returned %v, %v: there are %d blocks", a, size, ok, len(blocks))
		}
		for thing, number := range a {
			if !slices.Contains(blocks[number], thing) {
				t.Fatalf("PartBlocks of %v returned %v: the thing %d is not in its block", a, blocks, thing)
			}
		}
	}
	for _, a := range wrongPartitions() {
		if blocks, ok := impl.PartBlocks(a); ok || len(blocks) != 0 {
			t.Errorf("PartBlocks of %v returned %v, %v", a, blocks, ok)
		}
	}
}

// Promise 3.
func TestPartOf(t *testing.T) {
	for _, a := range partitionsTo(6) {
		blocks := blocksFrom(a)
		for turn := range len(a) + 1 {
			told := copies(blocks)
			for _, b := range told {
				rotate(b, turn)
			}
			if turn%2 == 1 {
				slices.Reverse(told)
			}
			rotate(told, turn)
			got, ok := impl.PartOf(len(a), told)
			mustBe(t, a, got, ok, "PartOf", len(a), told)
			if size, ok := impl.PartSize(got); !ok || size != len(told) {
				t.Fatalf("PartOf of %v has %d blocks", told, size)
			}
			for _, thing := range told[0] {
				if !impl.PartTogether(got, thing, told[0][0]) {
					t.Fatalf("PartOf of %v: the things of %v are not together", told, told[0])
				}
			}
		}
	}
	for _, a := range partitions(most) {
		blocks := blocksFrom(a)
		slices.Reverse(blocks)
		got, ok := impl.PartOf(most, blocks)
		mustBe(t, a, got, ok, "PartOf", most, blocks)
	}
}

// rotate puts the first ones of a list behind the others.
func rotate[T any](list []T, by int) {
	by %= len(list)
	turned := slices.Concat(list[by:], list[:by])
	copy(list, turned)
}

func TestPartOfFails(t *testing.T) {
	wrong := []struct {
		n      int
		blocks [][]int
	}{
		{0, nil}, {0, [][]int{{}}}, {0, [][]int{{0}}}, {-1, nil}, {-1, [][]int{{0}}},
		{9, [][]int{{0, 1, 2, 3, 4, 5, 6, 7, 8}}}, {9, [][]int{{0}, {1}, {2}, {3}, {4}, {5}, {6}, {7}, {8}}},
		{1, nil}, {1, [][]int{}}, {1, [][]int{{}}}, {1, [][]int{nil}}, {1, [][]int{{1}}}, {1, [][]int{{-1}}},
		{1, [][]int{{0}, {}}}, {1, [][]int{{}, {0}}}, {1, [][]int{{0}, nil}}, {3, [][]int{{0, 1}, {}, {2}}},
		{1, [][]int{{0, 1}}}, {1, [][]int{{0}, {1}}}, {1, [][]int{{0}, {0}}}, {1, [][]int{{0, 0}}},
		{2, [][]int{{0, 0}}}, {2, [][]int{{0, 1, 0}}}, {3, [][]int{{0, 1}, {1, 2}}}, {3, [][]int{{0, 1, 2}, {2}}},
		{2, [][]int{{0}}}, {2, [][]int{{1}}}, {3, [][]int{{0}, {2}}}, {3, [][]int{{1, 2}}}, {4, [][]int{{0, 1}, {2, 2}}},
		{3, [][]int{{0, 1, 3}}}, {3, [][]int{{0, 1, 2}, {3}}}, {3, [][]int{{0, 1, 2, -1}}}, {3, [][]int{{0, -1, 2}}},
		{8, [][]int{{0, 1, 2, 3, 4, 5, 6}}}, {8, [][]int{{0, 1, 2, 3}, {4, 5, 6, 7, 8}}},
		{math.MaxInt, [][]int{{0}}}, {math.MinInt, [][]int{{0}}}, {1<<32 + 1, [][]int{{0}}}, {257, [][]int{{0}}},
	}
	for _, far := range farNumbers {
		wrong = append(wrong, struct {
			n      int
			blocks [][]int
		}{3, [][]int{{0, far}, {2}}})
	}
	for _, w := range wrong {
		got, ok := impl.PartOf(w.n, w.blocks)
		mustFail(t, got, ok, "PartOf", w.n, w.blocks)
	}
}

// Promise 4.
func TestPartSize(t *testing.T) {
	for _, a := range partitionsTo(most) {
		size, ok := impl.PartSize(a)
		if !ok || size != blockTotal(a) || size < 1 || size > len(a) {
			t.Fatalf("PartSize of %v returned %d, %v", a, size, ok)
		}
		if (size == len(a)) != slices.Equal(a, inOrder(len(a))) {
			t.Fatalf("PartSize of %v returned %d", a, size)
		}
	}
	for _, a := range wrongPartitions() {
		if size, ok := impl.PartSize(a); ok || size != 0 {
			t.Errorf("PartSize of %v returned %d, %v", a, size, ok)
		}
	}
}

// Promise 5.
func TestPartKernel(t *testing.T) {
	for n := 1; n <= 6; n++ {
		for _, f := range lists(n, -2, 2) {
			checkKernel(t, f)
		}
	}
	checkKernel(t, []int{5, 3, 5, 9, 3, 9, 0, 5})
	checkKernel(t, []int{7, 6, 5, 4, 3, 2, 1, 0})
	checkKernel(t, []int{-1, -1, -1, -1, -1, -1, -1, -1})
	checkKernel(t, []int{math.MaxInt, math.MinInt, -1, math.MinInt, 0, math.MaxInt, 1 << 32, 256})
	for _, far := range farNumbers {
		checkKernel(t, []int{far})
		checkKernel(t, []int{0, far, 1, far, 0})
		checkKernel(t, []int{far, 0, 1, far})
	}
	got, ok := impl.PartKernel([]int{4, -7, 4, 900, -7, 0})
	mustBe(t, []int{0, 1, 0, 2, 1, 3}, got, ok, "PartKernel", []int{4, -7, 4, 900, -7, 0})
	for _, f := range [][]int{nil, {}, make([]int, 9), {1, 2, 3, 4, 5, 6, 7, 8, 9}, make([]int, 10), make([]int, 256), make([]int, 1000)} {
		got, ok := impl.PartKernel(f)
		mustFail(t, got, ok, "PartKernel", f)
	}
}

func checkKernel(t *testing.T, f []int) {
	t.Helper()
	a, ok := impl.PartKernel(f)
	if !ok || len(a) != len(f) || !isPartition(a) || !impl.PartIn(a) {
		t.Fatalf("PartKernel of %v returned %v, %v", f, a, ok)
	}
	if !sameTogether(f, a, inOrder(len(f))) {
		t.Fatalf("PartKernel of %v returned %v: other things are together", f, a)
	}
	last := len(f) - 1
	if impl.PartTogether(a, 0, last) != (f[0] == f[last]) {
		t.Fatalf("PartKernel of %v returned %v: wrong for the first and the last thing", f, a)
	}
}

// Promise 6.
func TestPartTurned(t *testing.T) {
	for _, a := range partitionsTo(most) {
		turned, ok := impl.PartTurned(a)
		names := inOrder(len(a))
		slices.Reverse(names)
		if !ok || len(turned) != len(a) || !isPartition(turned) || !sameTogether(a, turned, names) {
			t.Fatalf("PartTurned of %v returned %v, %v", a, turned, ok)
		}
		back, ok := impl.PartTurned(turned)
		mustBe(t, a, back, ok, "PartTurned", turned)
		was, _ := impl.PartType(a)
		is, ok := impl.PartType(turned)
		mustBe(t, was, is, ok, "PartType", turned)
	}
	for _, a := range wrongPartitions() {
		got, ok := impl.PartTurned(a)
		mustFail(t, got, ok, "PartTurned", a)
	}
}

// Promise 7.
func TestPartNamed(t *testing.T) {
	for n := 1; n <= 5; n++ {
		for _, p := range namings(n) {
			for _, a := range partitions(n) {
				checkNamed(t, a, p)
			}
		}
	}
	for _, p := range [][]int{{0, 1, 2, 3, 4, 5, 6, 7}, {7, 6, 5, 4, 3, 2, 1, 0}, {3, 7, 0, 5, 1, 6, 2, 4}, {1, 2, 3, 4, 5, 6, 7, 0}} {
		for _, a := range partitions(most) {
			checkNamed(t, a, p)
		}
	}
	// A list of names that does not lead back to itself shows which way it is read.
	got, ok := impl.PartNamed([]int{0, 0, 1}, []int{1, 2, 0})
	mustBe(t, []int{0, 1, 1}, got, ok, "PartNamed", []int{0, 0, 1}, []int{1, 2, 0})
}

func checkNamed(t *testing.T, a []int, p []int) {
	t.Helper()
	named, ok := impl.PartNamed(a, p)
	if !ok || len(named) != len(a) || !isPartition(named) || !sameTogether(a, named, p) {
		t.Fatalf("PartNamed of %v and %v returned %v, %v", a, p, named, ok)
	}
	last := len(a) - 1
	if impl.PartTogether(named, p[0], p[last]) != impl.PartTogether(a, 0, last) {
		t.Fatalf("PartNamed of %v and %v returned %v: wrong for the first and the last thing", a, p, named)
	}
}

func TestPartNamedFails(t *testing.T) {
	for _, a := range wrongPartitions() {
		for _, p := range [][]int{nil, {0}, inOrder(len(a))} {
			got, ok := impl.PartNamed(a, p)
			mustFail(t, got, ok, "PartNamed", a, p)
		}
	}
	for n := 1; n <= 4; n++ {
		for length := 0; length <= n+1; length++ {
			for _, p := range lists(length, -1, n) {
				sorted := slices.Sorted(slices.Values(p))
				if slices.Equal(sorted, inOrder(n)) {
					continue
				}
				a := make([]int, n)
				got, ok := impl.PartNamed(a, p)
				mustFail(t, got, ok, "PartNamed", a, p)
			}
		}
	}
	all := []int{0, 1, 2, 3, 4, 5, 6, 7}
	for _, p := range [][]int{nil, all[:7], {0, 1, 2, 3, 4, 5, 6, 6}, {0, 1, 2, 3, 4, 5, 6, 8}, inOrder(9), {1, 2, 3, 4, 5, 6, 7, 8}} {
		got, ok := impl.PartNamed(all, p)
		mustFail(t, got, ok, "PartNamed", all, p)
	}
	for _, far := range farNumbers {
		got, ok := impl.PartNamed([]int{0, 1, 0}, []int{0, far, 1})
		mustFail(t, got, ok, "PartNamed", []int{0, 1, 0}, []int{0, far, 1})
	}
}

// Promise 8.
func TestPartDrop(t *testing.T) {
	for n := 2; n <= most; n++ {
		for _, a := range partitions(n) {
			for i := range a {
				checkDrop(t, a, i)
			}
		}
	}
	for _, i := range []int{-1, 0, 1} {
		got, ok := impl.PartDrop([]int{0}, i)
		mustFail(t, got, ok, "PartDrop", []int{0}, i)
	}
	for _, a := range wrongPartitions() {
		got, ok := impl.PartDrop(a, 0)
		mustFail(t, got, ok, "PartDrop", a, 0)
	}
	for _, a := range partitionsTo(4) {
		for _, i := range append([]int{len(a), len(a) + 1, most}, farNumbers...) {
			got, ok := impl.PartDrop(a, i)
			mustFail(t, got, ok, "PartDrop", a, i)
		}
	}
	got, ok := impl.PartDrop(inOrder(most), most)
	mustFail(t, got, ok, "PartDrop", inOrder(most), most)
}

func checkDrop(t *testing.T, a []int, i int) {
	t.Helper()
	got, ok := impl.PartDrop(a, i)
	left := slices.Delete(inOrder(len(a)), i, i+1)
	if !ok || len(got) != len(left) || !isPartition(got) {
		t.Fatalf("PartDrop of %v and %d returned %v, %v", a, i, got, ok)
	}
	if !sameTogether(got, a, left) {
		t.Fatalf("PartDrop of %v and %d returned %v: other things are together", a, i, got)
	}
	alone := 0
	if members := blocksFrom(a)[a[i]]; len(members) == 1 {
		alone = 1
	}
	was, _ := impl.PartSize(a)
	if is, ok := impl.PartSize(got); !ok || is != was-alone {
		t.Fatalf("PartDrop of %v and %d returned %v: it has %d blocks", a, i, got, is)
	}
}

// Promise 9.
func TestPartPut(t *testing.T) {
	for _, a := range partitionsTo(most - 1) {
		for k := 0; k <= blockTotal(a); k++ {
			got, ok := impl.PartPut(a, k)
			mustBe(t, append(slices.Clone(a), k), got, ok, "PartPut", a, k)
			back, ok := impl.PartDrop(got, len(a))
			mustBe(t, a, back, ok, "PartDrop", got, len(a))
		}
		for _, k := range append([]int{blockTotal(a) + 1, blockTotal(a) + 2, most + 1}, farNumbers...) {
			got, ok := impl.PartPut(a, k)
			mustFail(t, got, ok, "PartPut", a, k)
		}
	}
	for _, a := range partitions(most) {
		for k := -1; k <= most+1; k++ {
			got, ok := impl.PartPut(a, k)
			mustFail(t, got, ok, "PartPut", a, k)
		}
	}
	for _, a := range wrongPartitions() {
		for k := -1; k <= 2; k++ {
			got, ok := impl.PartPut(a, k)
			mustFail(t, got, ok, "PartPut", a, k)
		}
	}
}

// Promise 10.
func TestPartTogether(t *testing.T) {
	for _, a := range partitionsTo(most) {
		for i := range a {
			for k := range a {
				if got := impl.PartTogether(a, i, k); got != (a[i] == a[k]) {
					t.Fatalf("PartTogether of %v, %d and %d is %v", a, i, k, got)
				}
				if impl.PartTogether(a, i, k) != impl.PartTogether(a, k, i) {
					t.Fatalf("PartTogether of %v changes if %d and %d are exchanged", a, i, k)
				}
			}
			if !impl.PartTogether(a, i, i) {
				t.Fatalf("PartTogether of %v does not hold for %d and itself", a, i)
			}
		}
	}
	for _, a := range partitionsTo(4) {
		for _, out := range append([]int{len(a), len(a) + 1, most}, farNumbers...) {
			if impl.PartTogether(a, 0, out) || impl.PartTogether(a, out, 0) || impl.PartTogether(a, out, out) {
				t.Fatalf("PartTogether of %v holds for %d, which is no thing", a, out)
			}
		}
	}
	for _, a := range wrongPartitions() {
		if impl.PartTogether(a, 0, 0) || impl.PartTogether(a, 0, 1) || impl.PartTogether(a, 1, 1) {
			t.Errorf("PartTogether holds for %v, which is no partition", a)
		}
	}
}

// Promise 11.
func TestPartType(t *testing.T) {
	for _, a := range partitionsTo(most) {
		sizes, ok := impl.PartType(a)
		var want []int
		for _, b := range blocksFrom(a) {
			want = append(want, len(b))
		}
		slices.SortFunc(want, func(x, y int) int { return y - x })
		mustBe(t, want, sizes, ok, "PartType", a)
		sum := 0
		for i, size := range sizes {
			sum += size
			if i > 0 && size > sizes[i-1] {
				t.Fatalf("PartType of %v returned %v, which rises", a, sizes)
			}
		}
		count, _ := impl.PartSize(a)
		if sum != len(a) || count != len(sizes) {
			t.Fatalf("PartType of %v returned %v: the sum is %d, the number of blocks %d", a, sizes, sum, count)
		}
	}
	for _, a := range wrongPartitions() {
		got, ok := impl.PartType(a)
		mustFail(t, got, ok, "PartType", a)
	}
}

// Rule of the document: one thing alone has one partition, and most functions succeed for it.
func TestOneThing(t *testing.T) {
	a := []int{0}
	if !impl.PartIn(a) || !impl.PartTogether(a, 0, 0) {
		t.Error("one thing in one block is not a partition")
	}
	if blocks, ok := impl.PartBlocks(a); !ok || !sameLists(blocks, [][]int{{0}}) {
		t.Errorf("PartBlocks returned %v, %v", blocks, ok)
	}
	if size, ok := impl.PartSize(a); !ok || size != 1 {
		t.Errorf("PartSize returned %d, %v", size, ok)
	}
	of, ok := impl.PartOf(1, [][]int{{0}})
	mustBe(t, a, of, ok, "PartOf", 1)
	kernel, ok := impl.PartKernel([]int{-5})
	mustBe(t, a, kernel, ok, "PartKernel", -5)
	turned, ok := impl.PartTurned(a)
	mustBe(t, a, turned, ok, "PartTurned", a)
	named, ok := impl.PartNamed(a, []int{0})
	mustBe(t, a, named, ok, "PartNamed", a)
	dropped, ok := impl.PartDrop(a, 0)
	mustFail(t, dropped, ok, "PartDrop", a, 0)
	put, ok := impl.PartPut(a, 1)
	mustBe(t, []int{0, 1}, put, ok, "PartPut", a, 1)
	sizes, ok := impl.PartType(a)
	mustBe(t, []int{1}, sizes, ok, "PartType", a)
}

// Rule of the document: arguments stay as they were, and results share no memory.
func TestBlocksMemory(t *testing.T) {
	given := slices.Concat(partitionsTo(5), wrongPartitions(), [][]int{{0, 1, 0, 2, 1, 3, 0, 2}, {0, 1, 2, 3, 4, 5, 6, 7}, {0, 0, 0, 0, 0, 0, 0, 0}, {9, 3, 9, 1}})
	for _, a := range given {
		checkListMemory(t, a)
		told := [][]int{{0}}
		if isPartition(a) {
			told = blocksFrom(a)
			slices.Reverse(told)
			for _, b := range told {
				slices.Reverse(b)
			}
		}
		checkApart(t, "PartOf", told, func(g [][]int) [][]int { return one(impl.PartOf(len(a), g)) })
		names := inOrder(len(a))
		slices.Reverse(names)
		checkApart(t, "PartNamed", [][]int{a, names}, func(g [][]int) [][]int { return one(impl.PartNamed(g[0], g[1])) })
	}
	for _, wrong := range [][][]int{{{0, 1}, {}}, {{2, 1}, {1, 0}}, {{1, 0}}, {{3, 0, 9}}} {
		checkApart(t, "PartOf", wrong, func(g [][]int) [][]int { return one(impl.PartOf(4, g)) })
	}
}

// checkListMemory asks each function of one list.
func checkListMemory(t *testing.T, a []int) {
	t.Helper()
	given := [][]int{a}
	checkApart(t, "PartIn", given, func(g [][]int) [][]int { return none(impl.PartIn(g[0])) })
	checkApart(t, "PartSize", given, func(g [][]int) [][]int { return none(impl.PartSize(g[0])) })
	checkApart(t, "PartTogether", given, func(g [][]int) [][]int { return none(impl.PartTogether(g[0], 0, 1)) })
	checkApart(t, "PartKernel", given, func(g [][]int) [][]int { return one(impl.PartKernel(g[0])) })
	checkApart(t, "PartTurned", given, func(g [][]int) [][]int { return one(impl.PartTurned(g[0])) })
	checkApart(t, "PartType", given, func(g [][]int) [][]int { return one(impl.PartType(g[0])) })
	checkApart(t, "PartBlocks", given, func(g [][]int) [][]int {
		blocks, _ := impl.PartBlocks(g[0])
		return blocks
	})
	for k := -1; k <= len(a); k++ {
		checkApart(t, "PartDrop", given, func(g [][]int) [][]int { return one(impl.PartDrop(g[0], k)) })
		checkApart(t, "PartPut", given, func(g [][]int) [][]int { return one(impl.PartPut(g[0], k)) })
	}
}
