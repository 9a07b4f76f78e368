package impl

import (
	"iter"
	"math/bits"
	"slices"
)

// ThingsMax is the greatest number of things.
const ThingsMax = 8

// block is a set of things, one bit for each thing. Things come out of it in
// ascending order, in whatever order they were put in.
type block uint

// has reports whether a thing from 0 on is in the block.
func (b block) has(thing int) bool {
	return b&(1<<thing) != 0
}

// with returns the block with one thing more.
func (b block) with(thing int) block {
	return b | 1<<thing
}

// size returns the number of things.
func (b block) size() int {
	return bits.OnesCount(uint(b))
}

// things gives the things one by one, in ascending order.
func (b block) things() iter.Seq[int] {
	return func(yield func(int) bool) {
		for rest := b; rest != 0; rest &= rest - 1 {
			if !yield(bits.TrailingZeros(uint(rest))) {
				return
			}
		}
	}
}

// list returns the things in a slice of its own.
func (b block) list() []int {
	out := make([]int, 0, b.size())
	for thing := range b.things() {
		out = append(out, thing)
	}
	return out
}

// countFits reports whether a partition can have n things.
func countFits(n int) bool {
	return n >= 1 && n <= ThingsMax
}

// isThing reports whether a number is one of n things.
func isThing(n int, number int) bool {
	return number >= 0 && number < n
}

// isNaming reports whether a list has each of n things once.
func isNaming(n int, names []int) bool {
	if len(names) != n {
		return false
	}
	var met block
	for _, name := range names {
		if !isThing(n, name) || met.has(name) {
			return false
		}
		met = met.with(name)
	}
	return true
}

// blockCount returns the number of blocks of what is known to be a partition.
func blockCount(a []int) int {
	return slices.Max(a) + 1
}

// blocksOf returns the blocks of what is known to be a partition.
func blocksOf(a []int) []block {
	blocks := make([]block, blockCount(a))
	for thing, number := range a {
		blocks[number] = blocks[number].with(thing)
	}
	return blocks
}

// kernel numbers equal numbers of a list alike, from 0 on as they are met first.
func kernel(f []int) []int {
	a := make([]int, len(f))
	next := 0
	for i, number := range f {
		first := slices.Index(f, number)
		if first < i {
			a[i] = a[first]
			continue
		}
		a[i] = next
		next++
	}
	return a
}

// renamed returns what is known to be a partition with the thing i called names[i].
func renamed(a []int, names []int) []int {
	numbers := make([]int, len(a))
	for thing, number := range a {
		numbers[names[thing]] = number
	}
	return kernel(numbers)
}

// PartIn reports whether a list is a partition.
func PartIn(a []int) bool {
	if !countFits(len(a)) {
		return false
	}
	blocks := 0
	for _, number := range a {
		if number < 0 || number > blocks {
			return false
		}
		if number == blocks {
			blocks++
		}
	}
	return true
}

// PartBlocks returns the blocks of a partition as lists, and true.
func PartBlocks(a []int) ([][]int, bool) {
	if !PartIn(a) {
		return nil, false
	}
	lists := make([][]int, 0, blockCount(a))
	for _, b := range blocksOf(a) {
		lists = append(lists, b.list())
	}
	return lists, true
}

// PartOf returns the partition of n things with some blocks, told as lists of things in any order, and true.
func PartOf(n int, blocks [][]int) ([]int, bool) {
	if !countFits(n) {
		return nil, false
	}
	numbers := make([]int, n)
	var met block
	for number, things := range blocks {
		if len(things) == 0 {
			return nil, false
		}
		for _, thing := range things {
			if !isThing(n, thing) || met.has(thing) {
				return nil, false
			}
			met = met.with(thing)
			numbers[thing] = number
		}
	}
	if met.size() != n {
		return nil, false
	}
	return kernel(numbers), true
}

// PartSize returns the number of blocks, and true.
func PartSize(a []int) (int, bool) {
	if !PartIn(a) {
		return 0, false
	}
	return blockCount(a), true
}

// PartKernel returns the partition in which two things are in one block just if they have the same number in a list of 1 to ThingsMax numbers, and true.
func PartKernel(f []int) ([]int, bool) {
	if !countFits(len(f)) {
		return nil, false
	}
	return kernel(f), true
}

// PartTurned returns the partition with the thing i called n - 1 - i, and true.
func PartTurned(a []int) ([]int, bool) {
	if !PartIn(a) {
		return nil, false
	}
	names := make([]int, len(a))
	for thing := range names {
		names[thing] = len(a) - 1 - thing
	}
	return renamed(a, names), true
}

// PartNamed returns the partition with the thing i called as the number at the place i of a list tells, this having each thing once, and true.
func PartNamed(a []int, p []int) ([]int, bool) {
	if !PartIn(a) || !isNaming(len(a), p) {
		return nil, false
	}
	return renamed(a, p), true
}

// PartDrop returns the partition without a thing, all greater ones called 1 less, and true.
func PartDrop(a []int, i int) ([]int, bool) {
	if !PartIn(a) || !isThing(len(a), i) || len(a) == 1 {
		return nil, false
	}
	rest := slices.Concat(a[:i], a[i+1:])
	return kernel(rest), true
}

// PartPut returns the partition with one more thing, n, put into the block with a number, or into a new one for the number of blocks, and true.
func PartPut(a []int, k int) ([]int, bool) {
	if !PartIn(a) || k < 0 || k > blockCount(a) || len(a) == ThingsMax {
		return nil, false
	}
	return append(slices.Clone(a), k), true
}

// PartTogether reports whether two things are in one block, as a thing and itself are.
func PartTogether(a []int, i int, k int) bool {
	if !PartIn(a) || !isThing(len(a), i) || !isThing(len(a), k) {
		return false
	}
	return a[i] == a[k]
}

// PartType returns the sizes of all blocks, none greater than the one ahead of it, and true.
func PartType(a []int) ([]int, bool) {
	if !PartIn(a) {
		return nil, false
	}
	sizes := make([]int, 0, blockCount(a))
	for _, b := range blocksOf(a) {
		sizes = append(sizes, b.size())
	}
	slices.Sort(sizes)
	slices.Reverse(sizes)
	return sizes, true
}
