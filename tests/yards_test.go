package tests

import (
	"math"
	"slices"
	"testing"

	"loop.example/containerport/impl"
)

// yardIds has the ids of a yard that is full, the first and the last one among them; they neither ascend nor descend.
var yardIds = []int{
	500, 999, 1, 17, 998,
	2, 404, 33, 750, 8,
	120, 640, 77, 5, 901,
	256, 61, 333, 12, 888,
	45, 700, 19, 580, 3,
}

// strangeIds are ids that no yard of yardIds has.
var strangeIds = []int{4, 18, 501, 997}

// stacksNotThere has numbers of stacks just and far outside the bounds of each yard; the last two are 0 and 1 if what is above 32 bits is lost.
var stacksNotThere = []int{-1, -2, -5, 5, 6, 10, math.MinInt, math.MaxInt, 1 << 32, 1 - 1<<32}

// yardOf has stacks of these heights, filled with yardIds, one stack after the other.
func yardOf(high int, heights ...int) impl.Yard {
	y := impl.Yard{High: high}
	used := 0
	for _, h := range heights {
		y.Stacks = append(y.Stacks, slices.Clone(yardIds[used:used+h]))
		used += h
	}
	return y
}

// heightLists has all lists of so many heights, each 0, 1, one below the greatest, or the greatest.
func heightLists(many int, high int) [][]int {
	if many == 0 {
		return [][]int{nil}
	}
	heights := []int{0, 1, high - 1, high}
	slices.Sort(heights)
	heights = slices.Compact(heights)
	var lists [][]int
	for _, fewer := range heightLists(many-1, high) {
		for _, h := range heights {
			lists = append(lists, append(slices.Clone(fewer), h))
		}
	}
	return lists
}

// validYards has for every height and every number of stacks the yards from those without boxes to the full ones.
func validYards() []impl.Yard {
	var list []impl.Yard
	for high := 1; high <= 5; high++ {
		for many := 1; many <= 5; many++ {
			list = append(list, impl.Yard{High: high, Stacks: make([][]int, many)})
			for _, heights := range heightLists(many, high) {
				list = append(list, yardOf(high, heights...))
			}
		}
	}
	return list
}

// fewYards has for every height and every number of stacks a yard that is empty, one that is full, and some between.
func fewYards() []impl.Yard {
	var list []impl.Yard
	for high := 1; high <= 5; high++ {
		for many := 1; many <= 5; many++ {
			list = append(list, yardOf(high, make([]int, many)...))
			for step := range 4 {
				heights := make([]int, many)
				for i := range heights {
					heights[i] = (high + i*step) % (high + 1)
				}
				list = append(list, yardOf(high, heights...))
			}
		}
	}
	return list
}

// invalidYards has yards that are not valid for one reason each.
func invalidYards() []impl.Yard {
	list := wrongSizes()
	for _, y := range fewYards() {
		list = append(list, wrongBoxes(y)...)
	}
	return list
}

// wrongSizes has yards with too few or too many stacks, with heights that may not be, and with a stack that is too high.
func wrongSizes() []impl.Yard {
	list := []impl.Yard{{}}
	for high := 1; high <= 5; high++ {
		list = append(list, impl.Yard{High: high}, impl.Yard{High: high, Stacks: [][]int{}})
		for _, many := range []int{6, 7, 10, 999} {
			y := impl.Yard{High: high, Stacks: make([][]int, many)}
			one := copyOf(y)
			one.Stacks[0] = []int{17}
			last := copyOf(y)
			last.Stacks[many-1] = []int{17}
			list = append(list, y, one, last)
		}
		for many := 1; many <= 5; many++ {
			for at := range many {
				heights := make([]int, many)
				heights[at] = high + 1
				list = append(list, yardOf(high, heights...))
				y := yardOf(high, make([]int, many)...)
				y.Stacks[at] = numberedIds(999)
				list = append(list, y)
			}
		}
	}
	for _, high := range highsNotValid {
		list = append(list, impl.Yard{High: high}, yardOf(high, 0), yardOf(high, 1), yardOf(high, 2, 0, 5), yardOf(high, 0, 0, 0, 0, 0))
	}
	return list
}

// wrongBoxes has a yard with one of its boxes changed to an id that is not valid, or to that of another one.
func wrongBoxes(y impl.Yard) []impl.Yard {
	var list []impl.Yard
	with := func(at int, place int, id int) {
		wrong := copyOf(y)
		wrong.Stacks[at][place] = id
		list = append(list, wrong)
	}
	for at, s := range y.Stacks {
		for place, own := range s {
			for _, id := range []int{0, -1, 1000, math.MinInt, math.MaxInt, own + 1<<32} {
				with(at, place, id)
			}
			for _, id := range slices.Concat(y.Stacks...) {
				if id != own {
					with(at, place, id)
				}
			}
		}
	}
	return list
}

func copyOf(y impl.Yard) impl.Yard {
	other := impl.Yard{High: y.High}
	for _, s := range y.Stacks {
		other.Stacks = append(other.Stacks, slices.Clone(s))
	}
	return other
}

// sameYard makes no difference between nil slices and empty ones.
func sameYard(a impl.Yard, b impl.Yard) bool {
	return a.High == b.High && slices.EqualFunc(a.Stacks, b.Stacks, slices.Equal)
}

// whereIn returns the stack and the place of a box, looked for one by one; -1 and -1 if it is not there.
func whereIn(y impl.Yard, id int) (int, int) {
	for at, s := range y.Stacks {
		for place, other := range s {
			if other == id {
				return at, place
			}
		}
	}
	return -1, -1
}

// withMove returns what a yard should be after a move, by the document, and whether it can be done.
func withMove(y impl.Yard, m impl.Move) (impl.Yard, bool) {
	after := copyOf(y)
	many := len(y.Stacks)
	if m.From < 0 || m.From >= many || m.To < 0 || m.To >= many || m.From == m.To {
		return after, false
	}
	top := len(y.Stacks[m.From]) - 1
	if top < 0 || len(y.Stacks[m.To]) == y.High {
		return after, false
	}
	after.Stacks[m.From] = after.Stacks[m.From][:top]
	after.Stacks[m.To] = append(after.Stacks[m.To], y.Stacks[m.From][top])
	return after, true
}

func TestConstantsOfYards(t *testing.T) {
	if impl.MaxStacks != 5 || impl.MaxMoves != 40 {
		t.Errorf("MaxStacks is %d, MaxMoves %d", impl.MaxStacks, impl.MaxMoves)
	}
}

func TestYardValidOfKnownYards(t *testing.T) {
	for _, k := range []struct {
		high   int
		stacks [][]int
		want   bool
	}{
		{2, [][]int{{4, 9}, {7}, {}}, true},
		{2, [][]int{{4, 9}, {7}, nil}, true},
		{5, [][]int{{4, 9}, {7}, {}}, true},
		{1, [][]int{{4}}, true},
		{1, [][]int{nil}, true},
		{5, [][]int{{1, 2, 3, 4, 999}}, true},
		{1, [][]int{{1}, {2}, {3}, {4}, {999}}, true},
		{5, [][]int{{}, {}, {}, {}, {}}, true},
		// No stacks, and too many.
		{2, nil, false},
		{2, [][]int{}, false},
		{2, [][]int{{}, {}, {}, {}, {}, {}}, false},
		{1, [][]int{{1}, {2}, {3}, {4}, {5}, {6}}, false},
		// Heights.
		{1, [][]int{{4, 9}}, false},
		{1, [][]int{{7}, {4, 9}}, false},
		{2, [][]int{{4, 9}, {7, 1, 2}, {}}, false},
		{5, [][]int{{}, {1, 2, 3, 4, 5, 6}}, false},
		{6, [][]int{{1, 2, 3, 4, 5, 6}}, false},
		{0, [][]int{{}}, false},
		{-1, [][]int{{}}, false},
		{6, [][]int{{}}, false},
		// Ids.
		{2, [][]int{{4, 0}, {7}}, false},
		{2, [][]int{{4, 9}, {-7}}, false},
		{2, [][]int{{4, 9}, {1000}}, false},
		{2, [][]int{{4}, {4}}, false},
		{2, [][]int{{4, 4}, {7}}, false},
		{2, [][]int{{4, 9}, {7, 4}}, false},
		{2, [][]int{{4, 9}, {9}}, false},
		{3, [][]int{{4, 9, 1}, {}, {}, {}, {2, 3, 4}}, false},
	} {
		y := impl.Yard{High: k.high, Stacks: k.stacks}
		if got := impl.YardValid(y); got != k.want {
			t.Errorf("YardValid of %v is %v", y, got)
		}
	}
}

func TestYardValidOfEveryHeight(t *testing.T) {
	for high := -3; high <= 12; high++ {
		for boxes := range 12 {
			for many := range 8 {
				y := impl.Yard{High: high, Stacks: make([][]int, many)}
				if many > 0 {
					y.Stacks[many-1] = numberedIds(boxes)
				}
				want := 1 <= many && many <= 5 && 1 <= high && high <= 5 && boxes <= high
				if got := impl.YardValid(y); got != want {
					t.Errorf("YardValid of %v is %v", y, got)
				}
			}
		}
	}
}

func TestYardValidOfValidYards(t *testing.T) {
	for _, y := range validYards() {
		if !impl.YardValid(y) {
			t.Errorf("%v is not valid", y)
		}
	}
}

func TestYardValidOfOtherYards(t *testing.T) {
	for _, y := range invalidYards() {
		if impl.YardValid(y) {
			t.Errorf("%.60v is valid", y)
		}
	}
}

func TestP55YardsMayBeEmpty(t *testing.T) {
	for _, y := range validYards() {
		for _, empty := range [][]int{nil, {}} {
			for at := range len(y.Stacks) + 1 {
				more := copyOf(y)
				more.Stacks = slices.Insert(more.Stacks, at, empty)
				if got := impl.YardValid(more); got != (len(y.Stacks) < 5) {
					t.Fatalf("YardValid of %v is %v", more, got)
				}
			}
		}
		if impl.YardValid(impl.Yard{High: y.High}) || impl.YardValid(impl.Yard{High: y.High, Stacks: y.Stacks[:0]}) {
			t.Fatalf("%v is valid without stacks", y)
		}
	}
}

func TestYardFindInKnownYards(t *testing.T) {
	y := impl.Yard{High: 2, Stacks: [][]int{{4, 9}, {7}, {}, {999, 1}, {5}}}
	for id, want := range map[int]int{4: 0, 9: 0, 7: 1, 999: 3, 1: 3, 5: 4, 2: -1, 8: -1, 0: -1, -4: -1, 1000: -1} {
		if got := impl.YardFind(y, id); got != want {
			t.Errorf("YardFind of %v, %d is %d, not %d", y, id, got, want)
		}
	}
}

func TestP56EveryBoxIsInOneStack(t *testing.T) {
	for _, y := range validYards() {
		for at, s := range y.Stacks {
			for _, id := range s {
				got := impl.YardFind(y, id)
				if got != at {
					t.Fatalf("YardFind of %v, %d is %d", y, id, got)
				}
				for other, boxes := range y.Stacks {
					if slices.Contains(boxes, id) != (other == got) {
						t.Fatalf("%d of %v is not in the stack %d alone", id, y, got)
					}
				}
			}
		}
	}
}

func TestYardFindOfOtherIds(t *testing.T) {
	for _, y := range validYards() {
		for _, id := range slices.Concat(strangeIds, idsNotValid, yardIds) {
			if at, _ := whereIn(y, id); at < 0 {
				if got := impl.YardFind(y, id); got != -1 {
					t.Fatalf("YardFind of %v, %d is %d, not -1", y, id, got)
				}
			}
		}
	}
}

func TestYardFindInOtherYards(t *testing.T) {
	for _, y := range invalidYards() {
		boxes := slices.Concat(y.Stacks...)
		for _, id := range append([]int{0, 4, 17}, boxes[:min(len(boxes), 3)]...) {
			if got := impl.YardFind(y, id); got != -1 {
				t.Fatalf("YardFind of %.60v, %d is %d, not -1", y, id, got)
			}
		}
	}
}

func TestYardIdsOfKnownYards(t *testing.T) {
	for _, k := range []struct {
		y    impl.Yard
		want []int
	}{
		{impl.Yard{High: 2, Stacks: [][]int{{4, 9}, {7}, {}}}, []int{4, 7, 9}},
		{impl.Yard{High: 2, Stacks: [][]int{{}, {9, 4}, {1}}}, []int{1, 4, 9}},
		{impl.Yard{High: 1, Stacks: [][]int{{999}, {1}}}, []int{1, 999}},
		{impl.Yard{High: 1, Stacks: [][]int{{999}}}, []int{999}},
		{impl.Yard{High: 5, Stacks: [][]int{{10, 2, 100, 20, 1}, {9}}}, []int{1, 2, 9, 10, 20, 100}},
		{impl.Yard{High: 1, Stacks: [][]int{{}}}, nil},
		{impl.Yard{High: 5, Stacks: [][]int{nil, nil, nil, nil, nil}}, nil},
		{impl.Yard{High: 1, Stacks: [][]int{{4, 9}}}, nil},
		{impl.Yard{High: 1, Stacks: [][]int{{4}, {4}}}, nil},
		{impl.Yard{High: 2}, nil},
	} {
		if got := impl.YardIds(k.y); !slices.Equal(got, k.want) {
			t.Errorf("YardIds of %v is %v, not %v", k.y, got, k.want)
		}
	}
}

func TestP57AllBoxesAreTold(t *testing.T) {
	for _, y := range validYards() {
		ids := impl.YardIds(y)
		many := 0
		for _, s := range y.Stacks {
			many += len(s)
		}
		if len(ids) != many {
			t.Fatalf("YardIds of %v is %v", y, ids)
		}
		for i, id := range ids {
			if i > 0 && ids[i-1] >= id {
				t.Fatalf("YardIds of %v is %v: it does not ascend", y, ids)
			}
			if at, _ := whereIn(y, id); at < 0 || impl.YardFind(y, id) != at {
				t.Fatalf("YardIds of %v is %v: %d is in the stack %d, found in %d", y, ids, id, at, impl.YardFind(y, id))
			}
		}
	}
}

func TestYardIdsOfOtherYards(t *testing.T) {
	for _, y := range invalidYards() {
		if got := impl.YardIds(y); len(got) != 0 {
			t.Fatalf("YardIds of %.60v is %v", y, got)
		}
	}
}

// checkYardPut asks twice, so that it shows if the first answer leaves something behind.
func checkYardPut(t *testing.T, y impl.Yard, to int, id int, want impl.Yard, wantOk bool) {
	t.Helper()
	for range 2 {
		if got, ok := impl.YardPut(y, to, id); !sameYard(got, want) || ok != wantOk {
			t.Fatalf("YardPut of %.60v, %d, %d is %v, %v, not %v, %v", y, to, id, got, ok, want, wantOk)
		}
	}
}

func TestYardPutOnKnownYards(t *testing.T) {
	y := impl.Yard{High: 2, Stacks: [][]int{{4, 9}, {7}, {}}}
	checkYardPut(t, y, 1, 8, impl.Yard{High: 2, Stacks: [][]int{{4, 9}, {7, 8}, {}}}, true)
	checkYardPut(t, y, 2, 999, impl.Yard{High: 2, Stacks: [][]int{{4, 9}, {7}, {999}}}, true)
	checkYardPut(t, y, 2, 1, impl.Yard{High: 2, Stacks: [][]int{{4, 9}, {7}, {1}}}, true)
	checkYardPut(t, impl.Yard{High: 1, Stacks: [][]int{nil}}, 0, 5, impl.Yard{High: 1, Stacks: [][]int{{5}}}, true)
	// A stack that is full, and one that is not there.
	checkYardPut(t, y, 0, 8, y, false)
	checkYardPut(t, y, 3, 8, y, false)
	checkYardPut(t, y, -1, 8, y, false)
	// Boxes of the same stack, the lowest and the highest one of another one.
	checkYardPut(t, y, 1, 7, y, false)
	checkYardPut(t, y, 1, 4, y, false)
	checkYardPut(t, y, 2, 9, y, false)
	checkYardPut(t, y, 2, 7, y, false)
	// No ids.
	checkYardPut(t, y, 2, 0, y, false)
	checkYardPut(t, y, 2, -8, y, false)
	checkYardPut(t, y, 2, 1000, y, false)
	// Yards that are not valid.
	checkYardPut(t, impl.Yard{High: 2}, 0, 8, impl.Yard{}, false)
	checkYardPut(t, impl.Yard{High: 6, Stacks: [][]int{{4}}}, 0, 8, impl.Yard{}, false)
	checkYardPut(t, impl.Yard{High: 1, Stacks: [][]int{{4, 9}, {}}}, 1, 8, impl.Yard{}, false)
	checkYardPut(t, impl.Yard{High: 2, Stacks: [][]int{{4}, {4}, {}}}, 2, 8, impl.Yard{}, false)
}

func TestP58WhatWasPutCanBeTaken(t *testing.T) {
	for _, y := range validYards() {
		for to, s := range y.Stacks {
			if len(s) == y.High {
				continue
			}
			for _, id := range strangeIds {
				want := copyOf(y)
				want.Stacks[to] = append(want.Stacks[to], id)
				more, ok := impl.YardPut(y, to, id)
				if !ok || !sameYard(more, want) || !impl.YardValid(more) || len(impl.YardIds(more)) != len(impl.YardIds(y))+1 {
					t.Fatalf("YardPut of %v, %d, %d is %v, %v", y, to, id, more, ok)
				}
				if back, taken := impl.YardTake(more, to); taken != id || !sameYard(back, y) {
					t.Fatalf("YardTake of %v, %d is %v, %d", more, to, back, taken)
				}
			}
		}
	}
}

func TestYardPutOnStacksThatAreNotThere(t *testing.T) {
	for _, y := range fewYards() {
		for _, to := range append([]int{len(y.Stacks)}, stacksNotThere...) {
			for _, id := range []int{4, 0, yardIds[0]} {
				checkYardPut(t, y, to, id, y, false)
			}
		}
	}
}

func TestYardPutThatIsRefused(t *testing.T) {
	for _, y := range validYards() {
		for to, s := range y.Stacks {
			refused := append(slices.Concat(y.Stacks...), 0, -1, 1000, math.MaxInt, 4+1<<32)
			if len(s) == y.High {
				refused = append(refused, strangeIds...)
			}
			for _, id := range refused {
				checkYardPut(t, y, to, id, y, false)
			}
		}
	}
}

func TestYardPutOnOtherYards(t *testing.T) {
	for _, y := range invalidYards() {
		for _, to := range []int{-1, 0, len(y.Stacks) - 1, len(y.Stacks)} {
			for _, id := range []int{4, 17, 0} {
				checkYardPut(t, y, to, id, impl.Yard{}, false)
			}
		}
	}
}

// checkYardTake asks twice, as checkYardPut does.
func checkYardTake(t *testing.T, y impl.Yard, from int, want impl.Yard, wantId int) {
	t.Helper()
	for range 2 {
		if got, id := impl.YardTake(y, from); !sameYard(got, want) || id != wantId {
			t.Fatalf("YardTake of %.60v, %d is %v, %d, not %v, %d", y, from, got, id, want, wantId)
		}
	}
}

func TestYardTakeOffKnownYards(t *testing.T) {
	y := impl.Yard{High: 2, Stacks: [][]int{{4, 9}, {7}, {}}}
	checkYardTake(t, y, 0, impl.Yard{High: 2, Stacks: [][]int{{4}, {7}, {}}}, 9)
	checkYardTake(t, y, 1, impl.Yard{High: 2, Stacks: [][]int{{4, 9}, {}, {}}}, 7)
	checkYardTake(t, impl.Yard{High: 1, Stacks: [][]int{{999}}}, 0, impl.Yard{High: 1, Stacks: [][]int{{}}}, 999)
	// A stack that is empty, and one that is not there.
	checkYardTake(t, y, 2, y, -1)
	checkYardTake(t, y, 3, y, -1)
	checkYardTake(t, y, -1, y, -1)
	// Yards that are not valid.
	checkYardTake(t, impl.Yard{High: 2}, 0, impl.Yard{}, -1)
	checkYardTake(t, impl.Yard{High: 6, Stacks: [][]int{{4}}}, 0, impl.Yard{}, -1)
	checkYardTake(t, impl.Yard{High: 1, Stacks: [][]int{{4, 9}, {7}}}, 1, impl.Yard{}, -1)
	checkYardTake(t, impl.Yard{High: 2, Stacks: [][]int{{4}, {4}, {7}}}, 2, impl.Yard{}, -1)
}

func TestP59WhatWasTakenCanBePutBack(t *testing.T) {
	for _, y := range validYards() {
		for from, s := range y.Stacks {
			top := len(s) - 1
			if top < 0 {
				continue
			}
			want := copyOf(y)
			want.Stacks[from] = s[:top]
			fewer, id := impl.YardTake(y, from)
			if id != s[top] || !sameYard(fewer, want) || !impl.YardValid(fewer) || impl.YardFind(fewer, id) != -1 {
				t.Fatalf("YardTake of %v, %d is %v, %d", y, from, fewer, id)
			}
			if back, ok := impl.YardPut(fewer, from, id); !ok || !sameYard(back, y) {
				t.Fatalf("YardPut of %v, %d, %d is %v, %v", fewer, from, id, back, ok)
			}
		}
	}
}

func TestYardTakeThatIsRefused(t *testing.T) {
	for _, y := range validYards() {
		for _, from := range append([]int{len(y.Stacks)}, stacksNotThere...) {
			checkYardTake(t, y, from, y, -1)
		}
		for from, s := range y.Stacks {
			if len(s) == 0 {
				checkYardTake(t, y, from, y, -1)
			}
		}
	}
}

func TestYardTakeOffOtherYards(t *testing.T) {
	for _, y := range invalidYards() {
		for _, from := range []int{-1, 0, 1, len(y.Stacks) - 1, len(y.Stacks)} {
			checkYardTake(t, y, from, impl.Yard{}, -1)
		}
	}
}

// checkYardMove asks twice, as checkYardPut does.
func checkYardMove(t *testing.T, y impl.Yard, m impl.Move, want impl.Yard, wantOk bool) {
	t.Helper()
	for range 2 {
		if got, ok := impl.YardMove(y, m); !sameYard(got, want) || ok != wantOk {
			t.Fatalf("YardMove of %.60v, %v is %v, %v, not %v, %v", y, m, got, ok, want, wantOk)
		}
	}
}

func TestYardMoveInKnownYards(t *testing.T) {
	y := impl.Yard{High: 2, Stacks: [][]int{{4, 9}, {7}, {}}}
	checkYardMove(t, y, impl.Move{From: 0, To: 1}, impl.Yard{High: 2, Stacks: [][]int{{4}, {7, 9}, {}}}, true)
	checkYardMove(t, y, impl.Move{From: 0, To: 2}, impl.Yard{High: 2, Stacks: [][]int{{4}, {7}, {9}}}, true)
	checkYardMove(t, y, impl.Move{From: 1, To: 2}, impl.Yard{High: 2, Stacks: [][]int{{4, 9}, {}, {7}}}, true)
	// To a full stack, from an empty one, and both.
	checkYardMove(t, y, impl.Move{From: 1, To: 0}, y, false)
	checkYardMove(t, y, impl.Move{From: 2, To: 1}, y, false)
	checkYardMove(t, y, impl.Move{From: 2, To: 0}, y, false)
	// To the same stack, which is full, has room or is empty.
	checkYardMove(t, y, impl.Move{From: 0, To: 0}, y, false)
	checkYardMove(t, y, impl.Move{From: 1, To: 1}, y, false)
	checkYardMove(t, y, impl.Move{From: 2, To: 2}, y, false)
	// Stacks that are not there.
	checkYardMove(t, y, impl.Move{From: 0, To: 3}, y, false)
	checkYardMove(t, y, impl.Move{From: 3, To: 1}, y, false)
	checkYardMove(t, y, impl.Move{From: 0, To: -1}, y, false)
	checkYardMove(t, y, impl.Move{From: -1, To: 1}, y, false)
	checkYardMove(t, y, impl.Move{From: 3, To: 3}, y, false)
	// A yard that is full, and one of one stack.
	full := impl.Yard{High: 1, Stacks: [][]int{{4}, {9}}}
	checkYardMove(t, full, impl.Move{From: 0, To: 1}, full, false)
	one := impl.Yard{High: 5, Stacks: [][]int{{4, 9}}}
	checkYardMove(t, one, impl.Move{From: 0, To: 0}, one, false)
	// Yards that are not valid.
	checkYardMove(t, impl.Yard{High: 2}, impl.Move{}, impl.Yard{}, false)
	checkYardMove(t, impl.Yard{High: 6, Stacks: [][]int{{4}, {}}}, impl.Move{From: 0, To: 1}, impl.Yard{}, false)
	checkYardMove(t, impl.Yard{High: 1, Stacks: [][]int{{4, 9}, {}}}, impl.Move{From: 0, To: 1}, impl.Yard{}, false)
	checkYardMove(t, impl.Yard{High: 2, Stacks: [][]int{{4}, {4}, {}}}, impl.Move{From: 0, To: 2}, impl.Yard{}, false)
	checkYardMove(t, impl.Yard{High: 2, Stacks: [][]int{{4}, {4}, {}}}, impl.Move{From: 0, To: 0}, impl.Yard{}, false)
}

func TestP60AMoveCanBeUndone(t *testing.T) {
	for _, y := range validYards() {
		for from := range y.Stacks {
			for to := range y.Stacks {
				m := impl.Move{From: from, To: to}
				want, can := withMove(y, m)
				after, ok := impl.YardMove(y, m)
				if ok != can || !sameYard(after, want) {
					t.Fatalf("YardMove of %v, %v is %v, %v", y, m, after, ok)
				}
				if !impl.YardValid(after) || !slices.Equal(impl.YardIds(after), impl.YardIds(y)) {
					t.Fatalf("YardMove of %v, %v is %v: it has other boxes", y, m, after)
				}
				if !ok {
					continue
				}
				if back, undone := impl.YardMove(after, impl.Move{From: to, To: from}); !undone || !sameYard(back, y) {
					t.Fatalf("YardMove of %v from %d to %d is %v, %v", after, to, from, back, undone)
				}
			}
		}
	}
}

func TestYardMoveOfStacksThatAreNotThere(t *testing.T) {
	for _, y := range fewYards() {
		for _, other := range append([]int{len(y.Stacks)}, stacksNotThere...) {
			for at := range y.Stacks {
				checkYardMove(t, y, impl.Move{From: at, To: other}, y, false)
				checkYardMove(t, y, impl.Move{From: other, To: at}, y, false)
			}
			checkYardMove(t, y, impl.Move{From: other, To: other}, y, false)
			checkYardMove(t, y, impl.Move{From: other, To: -other}, y, false)
		}
	}
}

func TestYardMoveInOtherYards(t *testing.T) {
	for _, y := range invalidYards() {
		last := len(y.Stacks) - 1
		for _, m := range []impl.Move{{From: 0, To: 0}, {From: 0, To: 1}, {From: 1, To: 0}, {From: last, To: 0}, {From: 0, To: last}, {From: -1, To: 0}, {From: 0, To: last + 1}} {
			checkYardMove(t, y, m, impl.Yard{}, false)
		}
	}
}

// checkYardRun asks twice, as checkYardPut does.
func checkYardRun(t *testing.T, y impl.Yard, list []impl.Move, want impl.Yard, wantMany int) {
	t.Helper()
	for range 2 {
		if got, many := impl.YardRun(y, list); !sameYard(got, want) || many != wantMany {
			t.Fatalf("YardRun of %.60v, %v is %v, %d, not %v, %d", y, list, got, many, want, wantMany)
		}
	}
}

// toAndFro has so many moves between two stacks, there and back in turn.
func toAndFro(many int) []impl.Move {
	var list []impl.Move
	for i := range many {
		list = append(list, impl.Move{From: i % 2, To: 1 - i%2})
	}
	return list
}

func TestYardRunOfKnownMoves(t *testing.T) {
	y := impl.Yard{High: 2, Stacks: [][]int{{4, 9}, {7}, {}}}
	checkYardRun(t, y, nil, y, 0)
	checkYardRun(t, y, []impl.Move{}, y, 0)
	checkYardRun(t, y, []impl.Move{{From: 0, To: 2}}, impl.Yard{High: 2, Stacks: [][]int{{4}, {7}, {9}}}, 1)
	checkYardRun(t, y, []impl.Move{{From: 0, To: 1}, {From: 0, To: 2}}, impl.Yard{High: 2, Stacks: [][]int{{}, {7, 9}, {4}}}, 2)
	// The first one cannot be done, though the next one could.
	checkYardRun(t, y, []impl.Move{{From: 1, To: 0}, {From: 0, To: 1}}, y, 0)
	checkYardRun(t, y, []impl.Move{{From: 0, To: 0}, {From: 0, To: 1}}, y, 0)
	checkYardRun(t, y, []impl.Move{{From: 2, To: 1}, {From: 0, To: 1}}, y, 0)
	checkYardRun(t, y, []impl.Move{{From: 0, To: 3}, {From: 0, To: 1}}, y, 0)
	// A later one cannot be done, though the one behind it could.
	third := impl.Yard{High: 2, Stacks: [][]int{{}, {7, 9}, {4}}}
	for _, m := range []impl.Move{{From: 0, To: 2}, {From: 2, To: 1}, {From: 2, To: 2}, {From: -1, To: 2}, {From: 2, To: 3}} {
		checkYardRun(t, y, []impl.Move{{From: 0, To: 1}, {From: 0, To: 2}, m, {From: 2, To: 0}}, third, 2)
	}
}

func TestYardRunOfManyMoves(t *testing.T) {
	there := impl.Yard{High: 2, Stacks: [][]int{{4, 9}, {7}}}
	gone := impl.Yard{High: 2, Stacks: [][]int{{4}, {7, 9}}}
	for many := range 41 {
		want := there
		if many%2 == 1 {
			want = gone
		}
		checkYardRun(t, there, toAndFro(many), want, many)
	}
	last := toAndFro(40)
	last[39] = impl.Move{From: 1, To: 1}
	checkYardRun(t, there, last, gone, 39)
	first := toAndFro(40)
	first[0] = impl.Move{From: 1, To: 1}
	checkYardRun(t, there, first, there, 0)
	for _, many := range []int{41, 42, 80, 999} {
		checkYardRun(t, there, toAndFro(many), impl.Yard{}, 0)
	}
	// More than MaxMoves are too many also where fewer could be done.
	checkYardRun(t, there, append(first, impl.Move{}), impl.Yard{}, 0)
	checkYardRun(t, there, append(last, impl.Move{}), impl.Yard{}, 0)
}

// someMoves has moves between stacks from -1 to one past the last one, in a fixed order without a rule that shows; few of them are out of bounds.
func someMoves(seed uint32, stacks int, many int) []impl.Move {
	next := func(below int) int {
		seed = seed*1664525 + 1013904223
		return int(seed>>16) % below
	}
	stack := func() int {
		if next(60) == 0 {
			return []int{-1, stacks}[next(2)]
		}
		return next(stacks)
	}
	var list []impl.Move
	for range many {
		list = append(list, impl.Move{From: stack(), To: stack()})
	}
	return list
}

// checkP2 runs moves, holds the answer against that of withMove, and undoes what was done.
func checkP2(t *testing.T, y impl.Yard, list []impl.Move) {
	t.Helper()
	want, done := copyOf(y), 0
	for _, m := range list {
		next, ok := withMove(want, m)
		if !ok {
			break
		}
		want, done = next, done+1
	}
	after, many := impl.YardRun(y, list)
	if many != done || !sameYard(after, want) {
		t.Fatalf("YardRun of %v, %v is %v, %d, not %v, %d", y, list, after, many, want, done)
	}
	if !impl.YardValid(after) || !slices.Equal(impl.YardIds(after), impl.YardIds(y)) {
		t.Fatalf("YardRun of %v, %v is %v: it has other boxes", y, list, after)
	}
	var undo []impl.Move
	for _, m := range slices.Backward(list[:done]) {
		undo = append(undo, impl.Move{From: m.To, To: m.From})
	}
	if back, undone := impl.YardRun(after, undo); undone != done || !sameYard(back, y) {
		t.Fatalf("YardRun of %v, %v is %v, %d, not %v again", after, undo, back, undone, y)
	}
}

func TestP2NoBoxIsLostOrDoubled(t *testing.T) {
	for i, y := range validYards() {
		for _, many := range []int{0, 1, 7, 40} {
			checkP2(t, y, someMoves(uint32(i*50+many), len(y.Stacks), many))
		}
	}
}

// TestP2OfLongRuns leaves out the moves that cannot be done, as otherwise few lists go on to MaxMoves.
func TestP2OfLongRuns(t *testing.T) {
	for i, y := range validYards() {
		if i%3 != 0 {
			continue
		}
		now := y
		var list []impl.Move
		for _, m := range someMoves(uint32(i), len(y.Stacks), 400) {
			if next, ok := withMove(now, m); ok && len(list) < 40 {
				now = next
				list = append(list, m)
			}
		}
		checkP2(t, y, list)
	}
}

// TestP2OfAllShortRuns has moves of the three stacks of a yard and of a fourth one, which is not there.
func TestP2OfAllShortRuns(t *testing.T) {
	var moves []impl.Move
	for i := range 16 {
		moves = append(moves, impl.Move{From: i / 4, To: i % 4})
	}
	for _, heights := range heightLists(3, 2) {
		y := yardOf(2, heights...)
		for _, a := range moves {
			for _, b := range moves {
				for _, c := range moves {
					checkP2(t, y, []impl.Move{a, b, c})
				}
			}
		}
	}
}

func TestYardRunInOtherYards(t *testing.T) {
	for _, y := range invalidYards() {
		for _, many := range []int{0, 1, 2, 40, 41} {
			checkYardRun(t, y, toAndFro(many), impl.Yard{}, 0)
		}
	}
}

// inOneList returns a yard like this whose stacks lie one behind the other in one list with room behind, and whose list of stacks has room, too.
func inOneList(y impl.Yard) (impl.Yard, []int, [][]int) {
	whole := append(slices.Concat(y.Stacks...), -7, -8, -9)
	stacks := make([][]int, 0, len(y.Stacks)+2)
	used := 0
	for _, s := range y.Stacks {
		stacks = append(stacks, whole[used:used+len(s)])
		used += len(s)
	}
	beyond := append(stacks, []int{-1}, []int{-2})
	return impl.Yard{High: y.High, Stacks: stacks}, whole, beyond
}

// yardAnswers has the yards that are returned for a yard, those of calls that change it and of calls that do not.
func yardAnswers(y impl.Yard) []impl.Yard {
	var list []impl.Yard
	for at := -1; at <= min(len(y.Stacks), 5); at++ {
		for _, id := range []int{4, 0, 500, 999} {
			put, _ := impl.YardPut(y, at, id)
			list = append(list, put)
		}
		taken, _ := impl.YardTake(y, at)
		list = append(list, taken)
		for to := -1; to <= min(len(y.Stacks), 5); to++ {
			m := impl.Move{From: at, To: to}
			moved, _ := impl.YardMove(y, m)
			run, _ := impl.YardRun(y, []impl.Move{m, {From: to, To: at}, {From: at, To: 0}})
			list = append(list, moved, run)
		}
	}
	none, _ := impl.YardRun(y, nil)
	long, _ := impl.YardRun(y, toAndFro(41))
	return append(list, none, long)
}

func TestYardsAreNotChanged(t *testing.T) {
	for _, y := range append(fewYards(), invalidYards()...) {
		own, whole, beyond := inOneList(y)
		before := slices.Clone(whole)
		impl.YardValid(own)
		impl.YardFind(own, 500)
		impl.YardIds(own)
		yardAnswers(own)
		if !sameYard(own, y) || !slices.Equal(whole, before) || !slices.Equal(beyond[len(y.Stacks)], []int{-1}) || !slices.Equal(beyond[len(y.Stacks)+1], []int{-2}) {
			t.Fatalf("%.60v was changed to %.60v, with %.60v behind it", y, own, whole)
		}
	}
}

func TestMovesAreNotChanged(t *testing.T) {
	for i, y := range fewYards() {
		whole := someMoves(uint32(i), len(y.Stacks), 40)
		before := slices.Clone(whole)
		for many := range 41 {
			impl.YardRun(y, whole[:many])
		}
		if !slices.Equal(whole, before) {
			t.Fatalf("%v was changed to %v", before, whole)
		}
	}
}

// overwriteYard writes to all the memory of a yard but that of one stack, and to what lies beyond its ends.
func overwriteYard(y impl.Yard, but int) {
	for at, s := range y.Stacks {
		if at != but {
			overwrite(s)
		}
	}
	all := y.Stacks[:cap(y.Stacks)]
	for at := range all {
		if at != but {
			all[at] = []int{-5}
		}
	}
}

func TestYardsShareNoMemory(t *testing.T) {
	for _, y := range fewYards() {
		own, whole, beyond := inOneList(y)
		before := slices.Clone(whole)
		ids := impl.YardIds(own)
		overwrite(ids)
		for i, answer := range yardAnswers(own) {
			overwriteYard(answer, -1)
			if !sameYard(own, y) || !slices.Equal(whole, before) || !slices.Equal(beyond[len(y.Stacks)], []int{-1}) {
				t.Fatalf("the answer %d for %v shares memory with it", i, y)
			}
		}
	}
}

func TestStacksOfAYardShareNoMemory(t *testing.T) {
	for _, y := range fewYards() {
		own, _, _ := inOneList(y)
		for at := range y.Stacks {
			for i, answer := range yardAnswers(own) {
				if at >= len(answer.Stacks) {
					continue
				}
				before := slices.Clone(answer.Stacks[at])
				overwriteYard(answer, at)
				if !slices.Equal(answer.Stacks[at], before) {
					t.Fatalf("in the answer %d for %v the stack %d shares memory with another one", i, y, at)
				}
			}
		}
	}
}

func TestAnswersOfYardsShareNoMemory(t *testing.T) {
	for _, y := range fewYards() {
		own, _, _ := inOneList(y)
		first, second := yardAnswers(own), yardAnswers(own)
		ids, again := impl.YardIds(own), impl.YardIds(own)
		overwrite(again)
		for i := range first {
			before := copyOf(first[i])
			overwriteYard(second[i], -1)
			if !sameYard(first[i], before) {
				t.Fatalf("two answers %d for %v share memory", i, y)
			}
		}
		if !slices.IsSorted(ids) || slices.Contains(ids, -5) {
			t.Fatalf("two answers of YardIds for %v share memory", y)
		}
	}
}
