package cloud_test

import (
	"slices"
	"testing"

	"entrepot/api"
	"entrepot/cloud"
)

// P15.1, P15.2: numbers and dots about their ends, at each place of a list.
func TestRanges(t *testing.T) {
	numbers := []int{least, least + 1, -1, 0, 1, 2, lastNumber - 1, lastNumber, lastNumber + 1, 1 << 32, greatest}
	for length := 1; length <= mostRegions+1; length++ {
		for i := range length {
			for _, n := range numbers {
				v := slices.Repeat([]int{3}, length)
				v[i] = n
				checkMake(t, v, nil)
				checkOne(t, of(v), []api.Dot{dot(1, 1), dot(i+1, 3), dot(i+1, n)}, []int{1, i + 1})
			}
		}
	}
	regions := []int{least, -16, -1, 0, 1, 2, 15, 16, 17, 18, 1 << 32, 1<<32 + 1, greatest}
	for _, r := range regions {
		for _, n := range numbers {
			for i := range 4 {
				dots := slices.Insert(dotsOf(3, 3, 5, 7), i, dot(r, n))
				checkMake(t, nil, dots)
				checkOne(t, of(nil, dots...), dots, []int{3, r})
				checkOne(t, of([]int{1, 2}, dot(1, 3), dot(2, 9)), []api.Dot{dot(r, n)}, []int{r})
			}
		}
	}
}

// P15.1, P15.2: each number of numbers, up to more than there are regions, noughts too.
func TestLengths(t *testing.T) {
	for length := range 40 {
		for zeros := range length + 1 {
			v := append(slices.Repeat([]int{2}, length-zeros), make([]int, zeros)...)
			checkMake(t, v, nil)
			checkMake(t, v, []api.Dot{dot(1, 3), dot(16, 4)})
			checkOne(t, of(v), nil, []int{1, 16, 17})
			checkOne(t, of(v, dot(16, 9)), []api.Dot{dot(length, 1), dot(length+1, 1), dot(16, 9)}, []int{length})
		}
	}
}

// manyClouds are clouds with about as many dots as there may be: all of one region, in several ones, or some of each.
func manyClouds(many int) []api.Cloud {
	var spread, mixed []api.Dot
	for i := range many {
		spread = append(spread, dot(i*16/many+1, 2+2*(i%(many/16+1))))
		mixed = append(mixed, dot(i/1000+3, 4+i%1000))
	}
	return []api.Cloud{of(nil, every(1, 2, 2, many)...), of(nil, every(16, 2, 1, many)...), of([]int{5, 5}, every(2, 7, 3, many)...), setOf(nil, spread).form(), of([]int{1, 2}, mixed...)}
}

// P15.1 to P15.4: as many dots as there may be, one more, and many more.
func TestManyDots(t *testing.T) {
	for _, many := range []int{mostDots - 1, mostDots, mostDots + 1, mostDots + 2, 2 * mostDots, 5 * mostDots} {
		for _, c := range manyClouds(many) {
			if len(c.Dots) != many {
				t.Fatalf("%d dots, not %d", len(c.Dots), many)
			}
			asked := []api.Dot{c.Dots[0], c.Dots[many/2], c.Dots[many-1], dot(1, 1), dot(1, 2), dot(1, 3), dot(2, 6), dot(9, lastNumber)}
			checkOne(t, c, asked, []int{0, 1, 2, 3, 16, 17})
			back := slices.Clone(c.Dots)
			slices.Reverse(back)
			checkMake(t, c.V, back)
			checkMake(t, c.V, slices.Concat(back, back, c.Dots))
			checkTwo(t, c, of(nil))
			checkTwo(t, of(nil), c)
			checkTwo(t, c, c)
		}
	}
}

// P15.1: more dots than there may be are told before another reason, but after a number or a dot that is none.
func TestErrorsOfMany(t *testing.T) {
	dots := every(1, 2, 2, mostDots+1)
	for _, c := range []api.Cloud{
		of([]int{0}, dots...), of([]int{1}, dots...), of([]int{9}, dots...), of(nil, slices.Repeat(dotsOf(1, 3), mostDots+1)...),
		of([]int{-1}, dots...), of(make([]int, 17), dots...), of([]int{lastNumber + 1}, dots...),
		of(nil, append(slices.Clone(dots), dot(17, 1))...), of(nil, append(slices.Clone(dots), dot(1, 0))...), of(nil, append(dotsOf(1, 0), dots...)...),
		of([]int{0}, dot(0, 1)), of([]int{0}, dot(1, 3), dot(1, 2), dot(17, 1)), of([]int{0, -1, 0}, dot(1, 3), dot(1, 2)), of(nil, append(dots[:mostDots:mostDots], dot(1, 2))...),
	} {
		checkOne(t, c, []api.Dot{dot(1, 1), dot(1, 2)}, []int{0, 1, 17})
	}
}

// P15.2: more dots than there may be, of which numbers, or other dots, take some or all in.
func TestManyAbsorbed(t *testing.T) {
	dots := every(1, 2, 2, mostDots+10)
	for _, n := range []int{0, 1, 2, 3, 17, 18, 19, 20, 21, 22, 23, 100, 2*mostDots + 18, 2*mostDots + 19, 2*mostDots + 20, 2*mostDots + 21} {
		checkMake(t, []int{n}, dots)
	}
	for _, many := range []int{5, 8, 9, 10, 11, 12, 100, mostDots, mostDots + 9, mostDots + 10} {
		checkMake(t, nil, slices.Concat(dots, every(1, 1, 2, many)))
		checkMake(t, nil, slices.Concat(every(1, 2*mostDots-2*many+21, 2, many), dots))
	}
	checkMake(t, nil, slices.Repeat(every(1, 2, 2, mostDots), 3))
	checkMake(t, nil, slices.Repeat(dotsOf(7, 2, 1, 4), 2*mostDots))
}

// P15.3: clouds that have more dots together than there may be, or no more.
func TestManyJoined(t *testing.T) {
	half := mostDots / 2
	for _, more := range []int{-1, 0, 1, 2, 100, half} {
		a, b := of(nil, every(1, 2, 2, half)...), of(nil, every(2, 2, 2, half+more)...)
		checkTwo(t, a, b)
		checkTwo(t, b, a)
		low, high := of(nil, every(4, 2, 2, half+more)...), of([]int{3}, every(4, 3, 2, half)...)
		checkTwo(t, low, high)
		checkTwo(t, high, low)
	}
	even, odd := of(nil, every(1, 2, 2, mostDots)...), of([]int{1}, every(1, 3, 2, mostDots)...)
	checkTwo(t, even, odd)
	checkTwo(t, odd, even)
	for n := 2*mostDots - 3; n < 2*mostDots+5; n++ {
		c := of([]int{n, 1})
		checkTwo(t, even, c)
		checkTwo(t, c, even)
		d := of([]int{n - mostDots}, every(2, 2, 2, mostDots/2)...)
		checkTwo(t, even, d)
		checkTwo(t, d, even)
	}
}

// P15.3, P15.4: clouds that are in no form, for each reason, on each side.
func TestWrongOnes(t *testing.T) {
	all := []api.Cloud{
		of(nil), of([]int{2}, dot(1, 4)), of([]int{-1}), of([]int{0}), of(make([]int, 17)), of(nil, dot(17, 1)), of(nil, dot(1, 1)), of([]int{3}, dot(1, 3)),
		of(nil, dot(1, 3), dot(1, 2)), of(nil, every(1, 2, 2, mostDots+1)...), of([]int{0}, every(1, 2, 2, mostDots+1)...), of([]int{lastNumber + 1}, every(1, 2, 2, mostDots+1)...),
		of(nil, every(1, 2, 2, mostDots)...), of(nil, every(2, 2, 2, mostDots)...),
	}
	for _, a := range all {
		checkOne(t, a, []api.Dot{dot(1, 1), dot(1, 4), dot(17, 1)}, []int{-1, 0, 1, 2, 17})
		for _, b := range all {
			checkTwo(t, a, b)
		}
	}
}

// P15.1 to P15.4: all dots that there are.
func TestEverything(t *testing.T) {
	all := of(slices.Repeat([]int{lastNumber}, mostRegions))
	asked := []api.Dot{dot(1, 1), dot(16, lastNumber), dot(9, lastNumber/2), dot(17, 1), dot(1, lastNumber+1), dot(16, 0)}
	checkOne(t, all, asked, []int{0, 1, 2, 15, 16, 17})
	checkTwo(t, all, all)
	for r := 1; r <= mostRegions; r++ {
		gaps := of(slices.Repeat([]int{lastNumber}, r), dotsOf(r, lastNumber)...)
		gaps.V[r-1] = lastNumber - 2
		checkOne(t, gaps, asked, []int{r, r + 1})
		checkTwo(t, all, gaps)
		checkTwo(t, gaps, all)
		checkTwo(t, gaps, setOf(nil, dotsOf(r, lastNumber-1)).form())
		checkMake(t, gaps.V, dotsOf(r, lastNumber, lastNumber-1))
		checkMake(t, gaps.V, dotsOf(r, lastNumber))
	}
}

// P15.2: all dots of a region one by one, the greatest one first, and so with one that is missing.
func TestOneByOne(t *testing.T) {
	dots := every(5, 1, 1, lastNumber)
	slices.Reverse(dots)
	got, err := cloud.Make(nil, dots)
	result(t, "Make", got, err, of([]int{4: lastNumber}), api.OK)
	for _, n := range []int{1, 2, lastNumber - 4096, lastNumber - 4095, lastNumber - 1, lastNumber} {
		want, wanted := api.Cloud{}, api.ErrFull
		if lastNumber-n <= mostDots {
			want, wanted = of([]int{4: n - 1}, every(5, n+1, 1, lastNumber-n)...), api.OK
		}
		got, err := cloud.Make(nil, slices.Concat(dots[:lastNumber-n], dots[lastNumber-n+1:]))
		result(t, "Make", got, err, want, wanted)
	}
}

// P15.1 to P15.4: a cloud whose lists are parts of one another's, or that is given twice, is one like others.
func TestSharedLists(t *testing.T) {
	whole := given(of([]int{1, 0, 2, 5}, dot(1, 3), dot(2, 2), dot(3, 5), dot(4, 9), dot(5, 3)))
	before := of(slices.Clone(whole.V), slices.Clone(whole.Dots)...)
	for from := range len(whole.V) + 1 {
		for end := range len(whole.Dots) + 1 {
			part := of(whole.V[:from], whole.Dots[:end]...)
			want, wanted := joined(part, before)
			got, err := cloud.Join(part, whole)
			result(t, "Join", got, err, want, wanted)
			spoil(got)
			got, err = cloud.Make(whole.V[from:], whole.Dots[end:])
			want, wanted = made(before.V[from:], before.Dots[end:])
			result(t, "Make", got, err, want, wanted)
			spoil(got)
			kept(t, whole, before)
		}
	}
	for range 3 {
		got, err := cloud.Join(whole, whole)
		result(t, "Join", got, err, before, api.OK)
		spoil(got)
		kept(t, whole, before)
	}
}
