package tests

import (
	"fmt"
	"regexp"
	"slices"
	"strconv"
	"strings"
	"sync"
)

// The greatest number of bytes of a script, written out as in most.
const mostScript = 600

// What a rest of a word may be, beside a certain number of numbers.
const (
	noRest  = -1
	anyRest = 0
)

// deskWord is a word of the document: what its rest is, and what comes of a
// partition and the numbers of the rest: a partition and an output.
type deskWord struct {
	told int
	ask  func(a []int, told []int) ([]int, string)
}

// makes returns a word that makes a partition, nil where it fails.
func makes(told int, list func(a []int, told []int) []int) deskWord {
	return deskWord{told, func(a []int, told []int) ([]int, string) {
		if next := list(a, told); next != nil {
			return next, "ok"
		}
		return a, "no"
	}}
}

// prints returns a word that prints something.
func prints(told int, text func(a []int, told []int) string) deskWord {
	return deskWord{told, func(a []int, told []int) ([]int, string) { return a, text(a, told) }}
}

// printsOf returns a word without a rest that prints something of the partition.
func printsOf[T any](of func(a []int) T, text func(T) string) deskWord {
	return prints(noRest, func(a []int, _ []int) string { return text(of(a)) })
}

// printsBoth returns a word that prints a number of two partitions of as many things.
func printsBoth(of func(a []int, b []int) int) deskWord {
	return prints(anyRest, func(a []int, told []int) string {
		if !isPartition(told) || len(told) != len(a) {
			return "no"
		}
		return strconv.Itoa(of(a, told))
	})
}

// listText prints a list.
func listText(list []int) string {
	if len(list) == 0 {
		return "-"
	}
	return strings.Trim(fmt.Sprint(list), "[]")
}

// listsText prints a list of lists.
func listsText(lists [][]int) string {
	var texts []string
	for _, list := range lists {
		texts = append(texts, strings.ReplaceAll(listText(list), " ", ""))
	}
	if texts == nil {
		return "-"
	}
	return strings.Join(texts, " ")
}

// listed has all partitions of each number of things, in their order.
var listed = sync.OnceValue(func() [][][]int {
	var out [][][]int
	for n := range most + 1 {
		out = append(out, partitions(n))
	}
	return out
})

// placeOf returns the place of a partition among all of as many things.
func placeOf(a []int) int {
	place, _ := slices.BinarySearchFunc(listed()[len(a)], a, slices.Compare[[]int])
	return place
}

// listedAt returns the partition of n things at a place, nil if there is none.
func listedAt(n int, place int) []int {
	if n < 1 || n > most || place < 0 || place >= len(listed()[n]) {
		return nil
	}
	return listed()[n][place]
}

// sizesOf returns the sizes of all blocks, the greatest one first.
func sizesOf(a []int) []int {
	var out []int
	for _, block := range blocksFrom(a) {
		out = append(out, len(block))
	}
	slices.SortFunc(out, func(x int, y int) int { return y - x })
	return out
}

// overSizes adds what a function makes of the sizes of all blocks.
func overSizes(of func(size int) int) func(a []int) int {
	return func(a []int) int {
		sum := 0
		for _, size := range sizesOf(a) {
			sum += of(size)
		}
		return sum
	}
}

// chainsOf multiplies the pairs of blocks that each merge may take.
func chainsOf(a []int) int {
	ways := 1
	for blocks := 2; blocks <= blockTotal(a); blocks++ {
		ways *= choices(blocks, 2)
	}
	return ways
}

// ringWays multiplies the factorials of 1 less than the sizes.
func ringWays(a []int) int {
	ways := 1
	for _, size := range sizesOf(a) {
		ways *= factorial(size - 1)
	}
	return ways
}

// farOf adds the lengths of all arcs.
func farOf(a []int) int {
	sum := 0
	for _, arc := range arcsFrom(a) {
		sum += arc[1] - arc[0]
	}
	return sum
}

// pairsText prints the pairs of a partition of at most 6 things.
func pairsText(a []int, _ []int) string {
	if len(a) > mostPaired {
		return "no"
	}
	return listsText(slices.DeleteFunc(twoThings(len(a)), func(pair []int) bool { return !together(a, pair) }))
}

// turnedBack returns the partition with the thing i called n - 1 - i.
func turnedBack(a []int) []int {
	last := len(a) - 1
	return fromTogether(len(a), func(i int, k int) bool { return a[last-i] == a[last-k] })
}

// kernelOf returns the partition in which equal numbers are together.
func kernelOf(f []int) []int {
	return fromTogether(len(f), func(i int, k int) bool { return f[i] == f[k] })
}

// signOf is the product of the document.
func signOf(a []int, b []int) int {
	sign := turned(rankOf(a) + rankOf(b))
	for _, block := range blocksFrom(b) {
		var within []int
		for _, thing := range block {
			within = append(within, a[thing])
		}
		sign *= factorial(blockTotal(within) - 1)
	}
	return sign
}

// deskMakers returns the words that make a partition.
func deskMakers() map[string]deskWord {
	when := func(is bool, list []int) []int {
		if is {
			return list
		}
		return nil
	}
	both := func(of func(a []int, b []int) []int) deskWord {
		return makes(anyRest, func(a []int, told []int) []int {
			if !isPartition(told) || len(told) != len(a) {
				return nil
			}
			return of(a, told)
		})
	}
	return map[string]deskWord{
		"part":   makes(anyRest, func(_ []int, told []int) []int { return when(isPartition(told), told) }),
		"kernel": makes(anyRest, func(_ []int, told []int) []int { return when(len(told) <= most, kernelOf(told)) }),
		"at":     makes(2, func(_ []int, told []int) []int { return listedAt(told[0], told[1]) }),
		"put": makes(1, func(a []int, told []int) []int {
			return when(len(a) < most && told[0] <= blockTotal(a), slices.Concat(a, told))
		}),
		"drop": makes(1, func(a []int, told []int) []int {
			if len(a) == 1 || told[0] >= len(a) {
				return nil
			}
			return kernelOf(slices.Delete(slices.Clone(a), told[0], told[0]+1))
		}),
		"meet": both(meetOf),
		"join": both(joinOf),
		"rings": makes(anyRest, func(_ []int, told []int) []int {
			if !isPermutation(told) {
				return nil
			}
			return ringsFrom(told)
		}),
		"turned": makes(noRest, func(a []int, _ []int) []int { return turnedBack(a) }),
		"next":   makes(noRest, func(a []int, _ []int) []int { return listedAt(len(a), placeOf(a)+1) }),
		"before": makes(noRest, func(a []int, _ []int) []int { return listedAt(len(a), placeOf(a)-1) }),
	}
}

// deskAskers returns the words that print something of the partition alone.
func deskAskers() map[string]deskWord {
	return map[string]deskWord{
		"show":   printsOf(slices.Clone[[]int], listText),
		"blocks": printsOf(blocksFrom, listsText),
		"type":   printsOf(sizesOf, listText),
		"size":   printsOf(blockTotal, strconv.Itoa),
		"rank":   printsOf(rankOf, strconv.Itoa),
		"merges": printsOf(mergesOf, listsText),
		"splits": printsOf(overSizes(func(size int) int { return powerBy(2, size-1) - 1 }), strconv.Itoa),
		"chains": printsOf(chainsOf, strconv.Itoa),
		"place":  printsOf(placeOf, strconv.Itoa),
		"arcs":   printsOf(arcsFrom, listsText),
		"cross": printsOf(func(a []int) int {
			cross, _ := crossAndNest(a)
			return cross
		}, strconv.Itoa),
		"nest": printsOf(func(a []int) int {
			_, nest := crossAndNest(a)
			return nest
		}, strconv.Itoa),
		"far":   printsOf(farOf, strconv.Itoa),
		"ring":  printsOf(ringsOf, listText),
		"count": printsOf(ringWays, strconv.Itoa),
		"pairs": prints(noRest, pairsText),
	}
}

// deskTold returns the words that print something of the numbers told too.
func deskTold() map[string]deskWord {
	upTo := func(greatest int, told []int, number func() int) string {
		if slices.Max(told) > greatest {
			return "no"
		}
		return strconv.Itoa(number())
	}
	finer := func(of func(a []int, b []int) int) deskWord {
		return prints(anyRest, func(a []int, told []int) string {
			if !isPartition(told) || len(told) != len(a) || !isFiner(a, told) {
				return "no"
			}
			return strconv.Itoa(of(a, told))
		})
	}
	return map[string]deskWord{
		"finer": prints(anyRest, func(a []int, told []int) string {
			if isPartition(told) && len(told) == len(a) && isFiner(a, told) {
				return "yes"
			}
			return "not"
		}),
		"sign":    finer(signOf),
		"inner":   finer(func(a []int, b []int) int { return len(between(a, b)) }),
		"quarrel": printsBoth(quarrelOf),
		"path": printsBoth(func(a []int, b []int) int {
			both := rankOf(a) + rankOf(b)
			return min(both-2*rankOf(meetOf(a, b)), 2*rankOf(joinOf(a, b))-both)
		}),
		"moves": printsBoth(movesByBlocks),
		"number": prints(2, func(_ []int, told []int) string {
			return upTo(mostNumber, told, func() int { return blocksBy(told[0], told[1]) })
		}),
		"all": prints(1, func(_ []int, told []int) string {
			return upTo(mostNumber, told, func() int {
				sum := 0
				for k := range told[0] + 1 {
					sum += blocksBy(told[0], k)
				}
				return sum
			})
		}),
		"plain": prints(1, func(_ []int, told []int) string {
			if told[0] == 0 {
				return "no"
			}
			return upTo(mostPlain, told, func() int { return choices(2*told[0], told[0]) / (told[0] + 1) })
		}),
	}
}

// deskWords has all words of the document.
var deskWords = sync.OnceValue(func() map[string]deskWord {
	out := deskMakers()
	for _, words := range []map[string]deskWord{deskAskers(), deskTold()} {
		for name, w := range words {
			out[name] = w
		}
	}
	return out
})

// restForm is what a rest of numbers may be.
var restForm = regexp.MustCompile(`^[0-9]{1,3}( [0-9]{1,3})*$`)

// deskLine returns the partition and the output that come of a line.
func deskLine(a []int, line string) ([]int, string) {
	name, rest := line, ""
	space := strings.Index(line, " ")
	if space >= 0 {
		name, rest = line[:space], line[space+1:]
	}
	w, known := deskWords()[name]
	if !known || (w.told == noRest) != (space < 0) {
		return a, "what"
	}
	if w.told == noRest {
		return w.ask(a, nil)
	}
	if !restForm.MatchString(rest) {
		return a, "no"
	}
	var told []int
	for _, digits := range strings.Fields(rest) {
		number, _ := strconv.Atoi(digits)
		told = append(told, number)
	}
	if w.told != anyRest && w.told != len(told) {
		return a, "no"
	}
	return w.ask(a, told)
}

// deskOutput returns the output of a script, by the definitions of the document.
func deskOutput(script string) string {
	if len(script) > mostScript {
		return "too long\n"
	}
	a, out := []int{0}, ""
	for _, line := range strings.SplitAfter(script, "\n") {
		if text, ended := strings.CutSuffix(line, "\n"); ended {
			var output string
			a, output = deskLine(a, text)
			out += output + "\n"
		}
	}
	return fmt.Sprintf("%sthings %d\n", out, len(a))
}
