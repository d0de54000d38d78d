package num

import (
	"math"
	"math/big"
	"slices"
	"testing"

	"constable/api"
)

const (
	least = api.Least
	most  = api.Most
)

// plain works a and b out without bounds, and tells it only if all three are within them.
func plain(kind, a, b int) (int, api.Errno) {
	x, y, z := big.NewInt(int64(a)), big.NewInt(int64(b)), new(big.Int)
	switch kind {
	case api.Add:
		z.Add(x, y)
	case api.Sub:
		z.Sub(x, y)
	case api.Mul:
		z.Mul(x, y)
	default:
		return 0, api.ErrKind
	}
	if !plainWithin(x) || !plainWithin(y) || !plainWithin(z) {
		return 0, api.ErrOver
	}
	return int(z.Int64()), api.OK
}

func plainWithin(n *big.Int) bool {
	return n.Cmp(big.NewInt(least)) >= 0 && n.Cmp(big.NewInt(most)) <= 0
}

// plainSum asks each number and each beginning's sum by itself.
func plainSum(l []int) (int, api.Errno) {
	sum := new(big.Int)
	for _, n := range l {
		x := big.NewInt(int64(n))
		if sum.Add(sum, x); !plainWithin(x) || !plainWithin(sum) {
			return 0, api.ErrOver
		}
	}
	return int(sum.Int64()), api.OK
}

// edges are numbers near 0, near the bounds, near an int's own bounds and near powers of 2 and their roots.
func edges() []int {
	var l []int
	for _, near := range []int{0, most, least, most / 2, least / 2, most / 3, least / 3, 1 << 31, -1 << 31, 1 << 32, -1 << 32, 3037000500, -3037000500} {
		for d := -3; d <= 3; d++ {
			l = append(l, near+d)
		}
	}
	for d := range 4 {
		l = append(l, math.MaxInt-d, math.MinInt+d)
	}
	for shift := range 63 {
		l = append(l, 1<<shift, -1<<shift, 1<<shift-1, 1-1<<shift)
	}
	slices.Sort(l)
	return slices.Compact(l)
}

type done struct {
	kind, a, b int
	want       int
	e          api.Errno
}

func holdDone(t *testing.T, cases []done) {
	t.Helper()
	for _, c := range cases {
		if n, e := Do(c.kind, c.a, c.b); n != c.want || e != c.e {
			t.Errorf("Do(%d, %d, %d) = %d, %d; want %d, %d", c.kind, c.a, c.b, n, e, c.want, c.e)
		}
	}
}

func TestP2_1_DoOrdinary(t *testing.T) {
	holdDone(t, []done{
		{api.Add, 2, 3, 5, api.OK},
		{api.Add, -2, -3, -5, api.OK},
		{api.Add, -7, 7, 0, api.OK},
		{api.Sub, 2, 3, -1, api.OK},
		{api.Sub, 2, -3, 5, api.OK},
		{api.Sub, -2, -3, 1, api.OK},
		{api.Mul, 6, 7, 42, api.OK},
		{api.Mul, -6, 7, -42, api.OK},
		{api.Mul, 6, -7, -42, api.OK},
		{api.Mul, -6, -7, 42, api.OK},
		{api.Mul, 0, 0, 0, api.OK},
	})
}

func TestP2_1_DoAtTheBounds(t *testing.T) {
	holdDone(t, []done{
		{api.Add, most, 0, most, api.OK},
		{api.Add, 0, most, most, api.OK},
		{api.Add, most - 1, 1, most, api.OK},
		{api.Add, most, least, 0, api.OK},
		{api.Add, least + 1, -1, least, api.OK},
		{api.Add, most, 1, 0, api.ErrOver},
		{api.Add, 1, most, 0, api.ErrOver},
		{api.Add, least, -1, 0, api.ErrOver},
		{api.Add, -1, least, 0, api.ErrOver},
		{api.Add, most, most, 0, api.ErrOver},
		{api.Add, least, least, 0, api.ErrOver},
		{api.Sub, 0, least, most, api.OK},
		{api.Sub, 0, most, least, api.OK},
		{api.Sub, most, most, 0, api.OK},
		{api.Sub, least, least, 0, api.OK},
		{api.Sub, -1, least, most - 1, api.OK},
		{api.Sub, 1, least, 0, api.ErrOver},
		{api.Sub, -1, most, 0, api.ErrOver},
		{api.Sub, most, -1, 0, api.ErrOver},
		{api.Sub, least, 1, 0, api.ErrOver},
		{api.Sub, most, least, 0, api.ErrOver},
		{api.Sub, least, most, 0, api.ErrOver},
		{api.Mul, most, 1, most, api.OK},
		{api.Mul, most, -1, least, api.OK},
		{api.Mul, -1, most, least, api.OK},
		{api.Mul, least, -1, most, api.OK},
		{api.Mul, most, 0, 0, api.OK},
		{api.Mul, 0, least, 0, api.OK},
		{api.Mul, most / 2, 2, most, api.OK},
		{api.Mul, most / 2, -2, least, api.OK},
		{api.Mul, 1 << 31, 1 << 31, most, api.OK},
		{api.Mul, -1 << 31, -1 << 31, most, api.OK},
		{api.Mul, 1 << 31, -1 << 31, least, api.OK},
		{api.Mul, most/2 + 1, 2, 0, api.ErrOver},
		{api.Mul, 1 << 31, 1<<31 + 1, 0, api.ErrOver},
	})
}

// Products that an int would wrap to a number within the bounds.
func TestP2_1_NothingWraps(t *testing.T) {
	holdDone(t, []done{
		{api.Mul, most, 4, 0, api.ErrOver},
		{api.Mul, 4, least, 0, api.ErrOver},
		{api.Mul, 1 << 32, 1 << 32, 0, api.ErrOver},
		{api.Mul, 1<<32 + 1, 1 << 32, 0, api.ErrOver},
		{api.Mul, most, most, 0, api.ErrOver},
		{api.Mul, least, least, 0, api.ErrOver},
		{api.Mul, most, least, 0, api.ErrOver},
		{api.Mul, most - 1, most - 1, 0, api.ErrOver},
	})
}

// What lies beyond the bounds is refused, even where what it is worked out to lies within them.
func TestP2_1_DoOfNumbersBeyond(t *testing.T) {
	holdDone(t, []done{
		{api.Add, most + 1, -1, 0, api.ErrOver},
		{api.Add, -1, most + 1, 0, api.ErrOver},
		{api.Add, least - 1, 1, 0, api.ErrOver},
		{api.Add, 1, least - 1, 0, api.ErrOver},
		{api.Add, math.MaxInt, math.MinInt, 0, api.ErrOver},
		{api.Add, math.MaxInt, math.MaxInt, 0, api.ErrOver},
		{api.Sub, most + 1, 1, 0, api.ErrOver},
		{api.Sub, 1, most + 1, 0, api.ErrOver},
		{api.Sub, most + 1, most + 1, 0, api.ErrOver},
		{api.Sub, math.MinInt, math.MinInt, 0, api.ErrOver},
		{api.Sub, 0, math.MinInt, 0, api.ErrOver},
		{api.Mul, 0, most + 1, 0, api.ErrOver},
		{api.Mul, least - 1, 0, 0, api.ErrOver},
		{api.Mul, math.MinInt, -1, 0, api.ErrOver},
		{api.Mul, -1, math.MinInt, 0, api.ErrOver},
		{api.Mul, 0, math.MinInt, 0, api.ErrOver},
	})
}

// The kind is asked first, ahead of the numbers.
func TestP2_1_DoOfOtherKinds(t *testing.T) {
	for _, kind := range []int{math.MinInt, -api.Add, -1, 0, api.PushVar, api.PushVal, api.Mul + 1, 100, math.MaxInt} {
		for _, n := range []int{0, 1, most, most + 1, least - 1, math.MaxInt, math.MinInt} {
			holdDone(t, []done{{kind, n, n, 0, api.ErrKind}, {kind, 1, n, 0, api.ErrKind}, {kind, n, 1, 0, api.ErrKind}})
		}
	}
}

func TestP2_1_DoIsWhatItIsWithoutBounds(t *testing.T) {
	l := edges()
	for _, a := range l {
		for _, b := range l {
			for _, kind := range []int{api.Add, api.Sub, api.Mul} {
				n, e := Do(kind, a, b)
				if want, f := plain(kind, a, b); n != want || e != f {
					t.Fatalf("Do(%d, %d, %d) = %d, %d; want %d, %d", kind, a, b, n, e, want, f)
				}
			}
		}
	}
}

func TestP2_1_Sum(t *testing.T) {
	for _, c := range []struct {
		l    []int
		want int
		e    api.Errno
	}{
		{nil, 0, api.OK},
		{[]int{}, 0, api.OK},
		{[]int{0}, 0, api.OK},
		{[]int{5}, 5, api.OK},
		{[]int{1, -2, 3}, 2, api.OK},
		{[]int{most}, most, api.OK},
		{[]int{least}, least, api.OK},
		{[]int{most, least}, 0, api.OK},
		{[]int{most, -1, 1}, most, api.OK},
		{[]int{least, most, most}, most, api.OK},
		{[]int{most, least, least}, least, api.OK},
		// Beyond, and back again.
		{[]int{most, 1, -1}, 0, api.ErrOver},
		{[]int{least, -1, 1}, 0, api.ErrOver},
		{[]int{most, most, least}, 0, api.ErrOver},
		{[]int{most, most, most, most}, 0, api.ErrOver},
		{[]int{least, least, least, least}, 0, api.ErrOver},
		{[]int{1, most, -1}, 0, api.ErrOver},
		{[]int{1, 2, most - 2}, 0, api.ErrOver},
		// One that is itself beyond, wherever it stands.
		{[]int{most + 1}, 0, api.ErrOver},
		{[]int{least - 1}, 0, api.ErrOver},
		{[]int{-1, most + 1}, 0, api.ErrOver},
		{[]int{1, least - 1}, 0, api.ErrOver},
		{[]int{most + 1, -1}, 0, api.ErrOver},
		{[]int{1, 2, math.MaxInt}, 0, api.ErrOver},
		{[]int{math.MinInt}, 0, api.ErrOver},
		{[]int{math.MaxInt, math.MinInt}, 0, api.ErrOver},
	} {
		if n, e := Sum(c.l); n != c.want || e != c.e {
			t.Errorf("Sum(%v) = %d, %d; want %d, %d", c.l, n, e, c.want, c.e)
		}
	}
}

func TestP2_1_SumIsWhatItIsWithoutBounds(t *testing.T) {
	few := []int{0, 1, -1, most, least, most - 1, least + 1, most + 1, least - 1, most / 2, math.MaxInt, math.MinInt}
	lists := [][]int{nil}
	for range 4 {
		var longer [][]int
		for _, l := range lists {
			for _, n := range few {
				longer = append(longer, append(slices.Clone(l), n))
			}
		}
		lists = longer
		for _, l := range lists {
			n, e := Sum(l)
			if want, f := plainSum(l); n != want || e != f {
				t.Fatalf("Sum(%v) = %d, %d; want %d, %d", l, n, e, want, f)
			}
		}
	}
}

func TestP2_1_SumOfLongLists(t *testing.T) {
	l := slices.Repeat([]int{most, least}, 100000)
	if n, e := Sum(l); n != 0 || e != api.OK {
		t.Errorf("back and forth: %d, %d", n, e)
	}
	if n, e := Sum(append(l, 1, most)); n != 0 || e != api.ErrOver {
		t.Errorf("beyond at the end: %d, %d", n, e)
	}
	if n, e := Sum(slices.Repeat([]int{most / 1024}, 1024)); n != most || e != api.OK {
		t.Errorf("up to the bound: %d, %d", n, e)
	}
}

// What lies behind a list's length is no part of it, and the list stays as it was.
func TestP2_1_SumReadsTheListAlone(t *testing.T) {
	whole := []int{1, 2, 3, most, math.MinInt}
	if n, e := Sum(whole[:3]); n != 6 || e != api.OK {
		t.Errorf("Sum = %d, %d", n, e)
	}
	if !slices.Equal(whole, []int{1, 2, 3, most, math.MinInt}) {
		t.Errorf("the list is now %v", whole)
	}
}

func TestP2_2_WhatIsAddedIsTakenOff(t *testing.T) {
	l := edges()
	taken := 0
	for _, a := range l {
		for _, b := range l {
			sum, e := Do(api.Add, a, b)
			if e != api.OK {
				continue
			}
			taken++
			if n, f := Do(api.Sub, sum, b); n != a || f != api.OK {
				t.Fatalf("%d and %d less %d = %d, %d", a, b, b, n, f)
			}
			if n, f := Do(api.Sub, sum, a); n != b || f != api.OK {
				t.Fatalf("%d and %d less %d = %d, %d", a, b, a, n, f)
			}
		}
	}
	if taken == 0 {
		t.Fatal("nothing was added")
	}
}

func TestP2_2_WhatIsTakenOffIsAdded(t *testing.T) {
	l := edges()
	for _, a := range l {
		for _, b := range l {
			rest, e := Do(api.Sub, a, b)
			if e != api.OK {
				continue
			}
			if n, f := Do(api.Add, rest, b); n != a || f != api.OK {
				t.Fatalf("%d less %d and %d = %d, %d", a, b, b, n, f)
			}
			if n, f := Sum([]int{rest, b}); n != a || f != api.OK {
				t.Fatalf("Sum of %d less %d and %d = %d, %d", a, b, b, n, f)
			}
		}
	}
}

func FuzzP2_1_Do(f *testing.F) {
	f.Add(api.Add, 1, 2)
	f.Add(api.Sub, least, most)
	f.Add(api.Mul, 1<<31, 1<<31)
	f.Add(0, 1, 1)
	f.Fuzz(func(t *testing.T, kind, a, b int) {
		n, e := Do(kind, a, b)
		if want, g := plain(kind, a, b); n != want || e != g {
			t.Fatalf("Do(%d, %d, %d) = %d, %d; want %d, %d", kind, a, b, n, e, want, g)
		}
	})
}
