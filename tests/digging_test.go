package tests

import (
	"math"
	"slices"
	"strconv"
	"testing"

	"loop.example/containerport/impl"
)

// boxesOf has the boxes of a yard, stack by stack, the lowest ones first.
func boxesOf(y impl.Yard) []int {
	return slices.Concat(y.Stacks...)
}

// roomOf returns how many boxes more a yard can have.
func roomOf(y impl.Yard) int {
	return len(y.Stacks)*y.High - len(boxesOf(y))
}

// numbersFrom returns a function that has numbers below a bound, in a fixed order without a rule that shows.
func numbersFrom(seed uint32) func(int) int {
	return func(below int) int {
		seed = seed*1664525 + 1013904223
		return int(seed>>16) % below
	}
}

// shuffled has the same ids or boxes in another order.
func shuffled[T any](ids []T, next func(int) int) []T {
	list := slices.Clone(ids)
	for i := range list {
		j := next(i + 1)
		list[i], list[j] = list[j], list[i]
	}
	return list
}

// someOrders has orders without boxes, of one box, of some, of all but one and of all boxes, and those of all boxes stack by stack, upwards and downwards.
func someOrders(y impl.Yard, seed uint32) [][]int {
	next := numbersFrom(seed)
	boxes := boxesOf(y)
	down := slices.Clone(boxes)
	slices.Reverse(down)
	list := [][]int{nil, {}, boxes, down}
	if len(boxes) == 0 {
		return list
	}
	for _, many := range []int{1, 1, next(len(boxes) + 1), len(boxes) - 1, len(boxes), len(boxes)} {
		list = append(list, shuffled(boxes, next)[:many])
	}
	return list
}

// ordersOf has all orders of ids, those without some of them, too.
func ordersOf(ids []int) [][]int {
	list := [][]int{nil}
	for i, id := range ids {
		others := slices.Delete(slices.Clone(ids), i, i+1)
		for _, order := range ordersOf(others) {
			list = append(list, append([]int{id}, order...))
		}
	}
	return list
}

// smallYards has all shapes of at most four boxes in at most three stacks of a height up to 3, and some higher ones.
func smallYards() []impl.Yard {
	var list []impl.Yard
	for high := 1; high <= 3; high++ {
		for many := 1; many <= 3; many++ {
			for _, heights := range heightLists(many, high) {
				if y := yardOf(high, heights...); len(boxesOf(y)) <= 4 {
					list = append(list, y)
				}
			}
		}
	}
	return append(list, yardOf(4, 4), yardOf(4, 4, 0), yardOf(5, 1, 3), yardOf(5, 4, 0, 0), yardOf(1, 1, 1, 0, 1, 1))
}

// leaveTurn returns when a box leaves by an order: boxes that are not in it leave last, behind all that a yard can have.
func leaveTurn(order []int, id int) int {
	for turn, other := range order {
		if other == id {
			return turn
		}
	}
	return 999
}

// blockingOf holds each box against each one below it, by the document.
func blockingOf(y impl.Yard, order []int) int {
	blocking := map[int]bool{}
	for _, s := range y.Stacks {
		for place, id := range s {
			for _, below := range s[:place] {
				if leaveTurn(order, below) < leaveTurn(order, id) {
					blocking[id] = true
				}
			}
		}
	}
	return len(blocking)
}

// digOf returns the moves that should lay a box bare, by the document, the yard behind them, and whether there is room.
func digOf(y impl.Yard, id int) ([]impl.Move, impl.Yard, bool) {
	var list []impl.Move
	from, place := whereIn(y, id)
	if from < 0 {
		return nil, y, false
	}
	for len(y.Stacks[from]) > place+1 {
		to := -1
		for fewest := 0; fewest < y.High && to < 0; fewest++ {
			to = slices.IndexFunc(y.Stacks, func(s []int) bool { return len(s) == fewest && !slices.Contains(s, id) })
		}
		m := impl.Move{From: from, To: to}
		after, ok := withMove(y, m)
		if !ok {
			return nil, y, false
		}
		y, list = after, append(list, m)
	}
	return list, y, true
}

// digAllOf returns how many moves should be made by an order, by the document, and whether there is room.
func digAllOf(y impl.Yard, order []int) (int, bool) {
	made := 0
	for _, id := range order {
		list, bare, ok := digOf(y, id)
		if !ok {
			return -1, false
		}
		y, made = withoutHighest(bare, id), made+len(list)
	}
	return made, true
}

// withoutHighest returns a yard without the box with this id, which is the highest one of its stack.
func withoutHighest(y impl.Yard, id int) impl.Yard {
	after := copyOf(y)
	at, place := whereIn(y, id)
	after.Stacks[at] = after.Stacks[at][:place]
	return after
}

// otherOrders has lists that are no orders of a valid yard: with an id that is not in it, with one that comes twice, and much too long ones.
func otherOrders(y impl.Yard, seed uint32) [][]int {
	next := numbersFrom(seed)
	boxes := shuffled(boxesOf(y), next)
	list := [][]int{numberedIds(999), make([]int, 30), append(slices.Clone(boxes), boxes...)}
	if len(boxes) == 0 {
		list = list[:2]
	}
	for _, id := range append(slices.Clone(idsNotValid), strangeIds...) {
		for _, at := range []int{0, next(len(boxes) + 1), len(boxes)} {
			list = append(list, slices.Insert(slices.Clone(boxes), at, id), slices.Insert(slices.Clone(boxes[:at]), next(at+1), id))
		}
	}
	for at, id := range boxes {
		lost := slices.Clone(boxes)
		lost[at] = id + 1<<32
		again := slices.Insert(slices.Clone(boxes), next(len(boxes)+1), id)
		list = append(list, lost, again, []int{id, id}, append(slices.Clone(boxes[:at+1]), id))
	}
	return list
}

func TestOrderOkOfKnownOrders(t *testing.T) {
	y := impl.Yard{High: 3, Stacks: [][]int{{4, 9, 2}, {7}, {}, {999, 1}}}
	for _, k := range []struct {
		order []int
		want  bool
	}{
		{nil, true},
		{[]int{}, true},
		{[]int{4}, true},
		{[]int{9}, true},
		{[]int{2}, true},
		{[]int{1, 999}, true},
		{[]int{4, 9, 2, 7, 999, 1}, true},
		{[]int{1, 7, 2, 999, 9, 4}, true},
		// Ids that are not in the yard, among them such as no box can have.
		{[]int{8}, false},
		{[]int{8, 4}, false},
		{[]int{4, 9, 8}, false},
		{[]int{0}, false},
		{[]int{4, 0}, false},
		{[]int{-4}, false},
		{[]int{1000}, false},
		{[]int{999, 998}, false},
		{[]int{1, 7, 2, 999, 9, 4, 3}, false},
		// Ids that come twice.
		{[]int{4, 4}, false},
		{[]int{4, 9, 4}, false},
		{[]int{4, 9, 9}, false},
		{[]int{1, 7, 2, 999, 9, 4, 1}, false},
		{[]int{8, 8}, false},
	} {
		if got := impl.OrderOk(y, k.order); got != k.want {
			t.Errorf("OrderOk of %v is %v", k.order, got)
		}
	}
}

func TestOrderOkOfYardsWithoutBoxes(t *testing.T) {
	for high := 1; high <= 5; high++ {
		for many := 1; many <= 5; many++ {
			y := yardOf(high, make([]int, many)...)
			if !impl.OrderOk(y, nil) || !impl.OrderOk(y, []int{}) {
				t.Errorf("no boxes are no order of %v", y)
			}
			for _, id := range append([]int{1, 4, 999}, idsNotValid...) {
				if impl.OrderOk(y, []int{id}) {
					t.Errorf("%d is an order of %v", id, y)
				}
			}
		}
	}
}

func TestP61OrdersMayBeShorter(t *testing.T) {
	check := func(y impl.Yard, order []int) {
		if !impl.OrderOk(y, order) {
			t.Fatalf("%v is no order of %v", order, y)
		}
		if len(order) == 0 {
			return
		}
		if !impl.OrderOk(y, order[:len(order)-1]) {
			t.Fatalf("%v without its last box is no order of %v", order, y)
		}
		for at := range len(order) + 1 {
			if again := slices.Insert(slices.Clone(order), at, order[0]); impl.OrderOk(y, again) {
				t.Fatalf("%v is an order of %v", again, y)
			}
		}
	}
	for i, y := range validYards() {
		for _, order := range someOrders(y, uint32(i)) {
			check(y, order)
		}
	}
	for _, y := range smallYards() {
		for _, order := range ordersOf(boxesOf(y)) {
			check(y, order)
		}
	}
}

func TestOrderOkOfOtherOrders(t *testing.T) {
	for i, y := range fewYards() {
		for _, order := range otherOrders(y, uint32(i)) {
			if impl.OrderOk(y, order) {
				t.Fatalf("%v is an order of %v", order, y)
			}
		}
	}
}

func TestOrderOkInOtherYards(t *testing.T) {
	for _, y := range invalidYards() {
		boxes := boxesOf(y)
		for _, order := range [][]int{nil, {}, {17}, {0}, boxes, boxes[:min(len(boxes), 1)]} {
			if impl.OrderOk(y, order) {
				t.Fatalf("%v is an order of %v", order, y)
			}
		}
	}
}

func TestBlockingInKnownYards(t *testing.T) {
	one := [][]int{{4, 9, 2}}
	three := [][]int{{4, 9, 2}, {7}, {5, 6}}
	for _, k := range []struct {
		high   int
		stacks [][]int
		order  []int
		want   int
	}{
		{3, three, []int{4, 9}, 2},
		// An order without boxes, and orders of one box: the others leave last, together.
		{3, one, nil, 0},
		{3, one, []int{2}, 0},
		{3, one, []int{9}, 1},
		{3, one, []int{4}, 2},
		{3, three, []int{7}, 0},
		{3, three, []int{5}, 1},
		// Orders of all boxes of a stack: 2 lies above two that leave earlier, above one, or above none.
		{3, one, []int{4, 9, 2}, 2},
		{3, one, []int{9, 4, 2}, 1},
		{3, one, []int{4, 2, 9}, 2},
		{3, one, []int{2, 4, 9}, 1},
		{3, one, []int{9, 2, 4}, 1},
		{3, one, []int{2, 9, 4}, 0},
		// Orders of two of them.
		{3, one, []int{9, 4}, 1},
		{3, one, []int{4, 2}, 2},
		{3, one, []int{2, 4}, 1},
		{3, one, []int{2, 9}, 0},
		{3, one, []int{9, 2}, 1},
		// What leaves earlier from another stack is not in the way.
		{3, three, []int{7, 6, 5, 2, 9, 4}, 0},
		{3, three, []int{4, 5, 7}, 3},
		{3, three, []int{4, 5, 6, 9, 2, 7}, 3},
		{1, [][]int{{4}, {9}, {2}}, []int{4, 9}, 0},
		// The lowest one leaves first, or last, of a stack of the greatest height.
		{5, [][]int{{1, 2, 3, 4, 999}}, []int{1}, 4},
		{5, [][]int{{1, 2, 3, 4, 999}}, []int{999, 4, 3, 2, 1}, 0},
		{5, [][]int{{1, 2, 3, 4, 999}}, []int{1, 2, 3, 4, 999}, 4},
		{5, [][]int{{1, 2, 3, 4, 999}}, []int{2, 1, 4, 3, 999}, 3},
		{5, [][]int{{1, 2, 3, 4, 999}}, []int{3, 999}, 2},
		// Yards without boxes.
		{5, [][]int{{}}, nil, 0},
		{1, [][]int{{}, {}, {}, {}, {}}, nil, 0},
		// No orders, and yards that are not valid.
		{3, three, []int{4, 4}, -1},
		{3, three, []int{4, 8}, -1},
		{3, three, []int{0}, -1},
		{5, [][]int{{}}, []int{4}, -1},
		{2, one, nil, -1},
		{2, one, []int{4}, -1},
		{3, nil, nil, -1},
		{0, [][]int{{}}, nil, -1},
		{3, [][]int{{4, 9, 2}, {4}}, []int{4}, -1},
	} {
		y := impl.Yard{High: k.high, Stacks: k.stacks}
		for range 2 {
			if got := impl.Blocking(y, k.order); got != k.want {
				t.Errorf("Blocking of %v, %v is %d, not %d", y, k.order, got, k.want)
			}
		}
	}
}

func TestBlockingOfAllOrders(t *testing.T) {
	for _, y := range append(smallYards(), yardOf(5, 5), yardOf(3, 3, 0, 2), yardOf(2, 2, 2, 1)) {
		for _, order := range ordersOf(boxesOf(y)) {
			if got, want := impl.Blocking(y, order), blockingOf(y, order); got != want {
				t.Fatalf("Blocking of %v, %v is %d, not %d", y, order, got, want)
			}
		}
	}
}

func TestBlockingInValidYards(t *testing.T) {
	for i, y := range validYards() {
		for _, order := range someOrders(y, uint32(i)) {
			if got, want := impl.Blocking(y, order), blockingOf(y, order); got != want {
				t.Fatalf("Blocking of %v, %v is %d, not %d", y, order, got, want)
			}
		}
	}
}

func TestBlockingOfOtherOrders(t *testing.T) {
	for i, y := range fewYards() {
		for _, order := range otherOrders(y, uint32(i)) {
			if got := impl.Blocking(y, order); got != -1 {
				t.Fatalf("Blocking of %v, %v is %d, not -1", y, order, got)
			}
		}
	}
}

func TestBlockingInOtherYards(t *testing.T) {
	for _, y := range invalidYards() {
		boxes := boxesOf(y)
		for _, order := range [][]int{nil, {}, {17}, {0}, boxes, boxes[:min(len(boxes), 1)]} {
			if got := impl.Blocking(y, order); got != -1 {
				t.Fatalf("Blocking of %v, %v is %d, not -1", y, order, got)
			}
		}
	}
}

// textOf tells a yard and how many boxes of an order have left.
func textOf(y impl.Yard, left int) string {
	text := strconv.Itoa(left)
	for _, s := range y.Stacks {
		text += "|"
		for _, id := range s {
			text += strconv.Itoa(id) + ","
		}
	}
	return text
}

// leastMoves returns how many moves are made at least until all boxes of an order have left, of all ways to move them; false if there is no way.
func leastMoves(y impl.Yard, order []int) (int, bool) {
	type state struct {
		yard impl.Yard
		left int
	}
	seen := map[string]bool{}
	now := []state{{y, 0}}
	for made := 0; len(now) > 0; made++ {
		var later []state
		// The list grows while boxes leave, as that costs no move.
		for i := 0; i < len(now); i++ {
			s := now[i]
			if s.left == len(order) {
				return made, true
			}
			text := textOf(s.yard, s.left)
			if seen[text] {
				continue
			}
			seen[text] = true
			for from, boxes := range s.yard.Stacks {
				if len(boxes) > 0 && boxes[len(boxes)-1] == order[s.left] {
					now = append(now, state{withoutHighest(s.yard, order[s.left]), s.left + 1})
				}
				for to := range s.yard.Stacks {
					if after, ok := withMove(s.yard, impl.Move{From: from, To: to}); ok {
						later = append(later, state{after, s.left})
					}
				}
			}
		}
		now = later
	}
	return 0, false
}

func TestP3WhatIsInTheWayHasToBeMoved(t *testing.T) {
	possible := 0
	for _, y := range smallYards() {
		for _, order := range ordersOf(boxesOf(y)) {
			least, ok := leastMoves(y, order)
			if !ok {
				continue
			}
			possible++
			if got := impl.Blocking(y, order); got < 0 || got > least {
				t.Fatalf("Blocking of %v, %v is %d, but %d moves are enough", y, order, got, least)
			}
		}
	}
	if possible < 1000 {
		t.Fatalf("only %d orders can leave", possible)
	}
}

// playOut lets the boxes of an order leave; what lies above is moved anywhere, and some boxes for no reason. It returns how many moves were made, and whether all have left.
func playOut(y impl.Yard, order []int, next func(int) int) (int, bool) {
	made := 0
	for _, id := range order {
		for tries := 0; ; tries++ {
			from := impl.YardFind(y, id)
			if impl.StackAbove(y.Stacks[from], y.High, id) == 0 && next(3) > 0 {
				y, _ = impl.YardTake(y, from)
				break
			}
			if tries == 60 {
				return made, false
			}
			if next(4) == 0 {
				from = next(len(y.Stacks))
			}
			after, ok := impl.YardMove(y, impl.Move{From: from, To: next(len(y.Stacks))})
			if ok {
				y, made = after, made+1
			}
		}
	}
	return made, true
}

func TestP3HoweverBoxesAreMoved(t *testing.T) {
	possible := 0
	for i, y := range validYards() {
		for j, order := range someOrders(y, uint32(i)) {
			made, ok := playOut(y, order, numbersFrom(uint32(i*50+j)))
			if !ok {
				continue
			}
			possible++
			if got := impl.Blocking(y, order); got < 0 || got > made {
				t.Fatalf("Blocking of %v, %v is %d, but %d moves were enough", y, order, got, made)
			}
		}
	}
	if possible < 10000 {
		t.Fatalf("only %d orders have left", possible)
	}
}

// checkDigMoves asks twice, as checkYardPut does.
func checkDigMoves(t *testing.T, y impl.Yard, id int, want []impl.Move, wantOk bool) {
	t.Helper()
	for range 2 {
		if got, ok := impl.DigMoves(y, id); !slices.Equal(got, want) || ok != wantOk {
			t.Fatalf("DigMoves of %v, %d is %v, %v, not %v, %v", y, id, got, ok, want, wantOk)
		}
	}
}

// movesFrom has moves from one stack to some others.
func movesFrom(from int, tos ...int) []impl.Move {
	var list []impl.Move
	for _, to := range tos {
		list = append(list, impl.Move{From: from, To: to})
	}
	return list
}

func TestDigMovesInKnownYards(t *testing.T) {
	for _, k := range []struct {
		high   int
		stacks [][]int
		id     int
		want   []impl.Move
	}{
		// The lowest, a middle and the highest box.
		{3, [][]int{{4, 9, 2}, {7}, {5, 6}}, 4, movesFrom(0, 1, 1)},
		{3, [][]int{{4, 9, 2}, {7}, {5, 6}}, 9, movesFrom(0, 1)},
		{3, [][]int{{4, 9, 2}, {7}, {5, 6}}, 2, nil},
		{3, [][]int{{4, 9, 2}, {7}, {5, 6}}, 5, movesFrom(2, 1)},
		{3, [][]int{{4, 9, 2}, {7}, {5, 6}}, 7, nil},
		// Several stacks with the fewest boxes: behind the box's own, ahead of it, and both.
		{2, [][]int{{4, 9}, {}, {}}, 4, movesFrom(0, 1)},
		{2, [][]int{{}, {}, {4, 9}}, 4, movesFrom(2, 0)},
		{2, [][]int{{}, {4, 9}, {}}, 4, movesFrom(1, 0)},
		{2, [][]int{{7}, {4, 9}, {1}}, 4, movesFrom(1, 0)},
		// The fewest are ahead of it, or behind it.
		{3, [][]int{{7}, {4, 9}, {1, 5}}, 4, movesFrom(1, 0)},
		{3, [][]int{{1, 5}, {4, 9}, {7}}, 4, movesFrom(1, 2)},
		{2, [][]int{{1, 5}, {4, 9}, {7, 8}, {3}, {6}}, 4, movesFrom(1, 3)},
		{5, [][]int{{1, 5, 6}, {7, 8}, {3}, {4, 9}, {2, 10}}, 4, movesFrom(3, 2)},
		// The box's own stack has the fewest, from the beginning or after some moves, and as many as another one.
		{4, [][]int{{4, 9}, {7, 1, 5}, {8, 3, 6}}, 4, movesFrom(0, 1)},
		{4, [][]int{{7, 1, 5}, {8, 3, 6}, {4, 9}}, 4, movesFrom(2, 0)},
		{5, [][]int{{4, 9, 2, 10}, {7, 1, 5}, {8, 3, 6}}, 4, movesFrom(0, 1, 2, 1)},
		{3, [][]int{{4, 9}, {7, 1}, {5, 3}}, 4, movesFrom(0, 1)},
		// Each move counts for the next one.
		{5, [][]int{{1, 2, 3, 4, 999}, {}, {}, {}, {}}, 1, movesFrom(0, 1, 2, 3, 4)},
		{5, [][]int{{}, {}, {1, 2, 3, 4, 999}, {}, {}}, 1, movesFrom(2, 0, 1, 3, 4)},
		{5, [][]int{{}, {}, {}, {}, {1, 2, 3, 4, 999}}, 3, movesFrom(4, 0, 1)},
		{5, [][]int{{1, 2, 3, 4, 999}, {7, 8, 9}, {5}}, 1, movesFrom(0, 2, 2, 1, 2)},
		{5, [][]int{{1, 2, 3, 4, 999}, {}}, 1, movesFrom(0, 1, 1, 1, 1)},
		// Stacks become full while the box is laid bare.
		{3, [][]int{{4, 9, 2}, {7, 1}, {5, 6}}, 4, movesFrom(0, 1, 2)},
		{3, [][]int{{4, 9, 2}, {7, 1, 5}, {6}}, 4, movesFrom(0, 2, 2)},
		{3, [][]int{{4, 9, 2}, {7, 1, 3}, {5, 6}}, 9, movesFrom(0, 2)},
		// One stack, full stacks and the least height, with nothing above the box.
		{5, [][]int{{4, 9}}, 9, nil},
		{1, [][]int{{4}}, 4, nil},
		{1, [][]int{{4}, {9}, {2}, {7}, {999}}, 999, nil},
		{2, [][]int{{4, 9}, {7, 8}}, 8, nil},
		// The first and the last id.
		{2, [][]int{{1, 999}, {}}, 1, movesFrom(0, 1)},
		{2, [][]int{{999, 1}, {}}, 999, movesFrom(0, 1)},
	} {
		checkDigMoves(t, impl.Yard{High: k.high, Stacks: k.stacks}, k.id, k.want, true)
	}
}

func TestDigMovesThatFail(t *testing.T) {
	for _, k := range []struct {
		high   int
		stacks [][]int
		id     int
	}{
		// No other stack.
		{2, [][]int{{4, 9}}, 4},
		{5, [][]int{{4, 9}}, 4},
		{5, [][]int{{1, 2, 3, 4, 999}}, 4},
		// All others are full at the first move, or at a later one.
		{2, [][]int{{4, 9}, {7, 8}}, 4},
		{2, [][]int{{4, 9}, {7, 8}}, 7},
		{3, [][]int{{4, 9}, {7, 8, 1}}, 4},
		{3, [][]int{{4, 9, 2}, {7, 1}, {5, 6, 3}}, 4},
		{3, [][]int{{4, 9, 2}, {7, 1, 8}, {5, 6}}, 4},
		{5, [][]int{{1, 2, 3, 4, 999}, {5, 6}}, 1},
		// No such box.
		{3, [][]int{{4, 9, 2}, {7}}, 8},
		{3, [][]int{{4, 9, 2}, {7}}, 0},
		{3, [][]int{{4, 9, 2}, {7}}, -1},
		{3, [][]int{{4, 9, 2}, {7}}, -4},
		{3, [][]int{{4, 9, 2}, {7}}, 1000},
		{3, [][]int{{}, {}}, 4},
		{3, [][]int{{}, {}}, 0},
		// Yards that are not valid, with the box bare or with something above it.
		{2, nil, 4},
		{2, [][]int{}, 0},
		{6, [][]int{{4, 9}, {}}, 4},
		{6, [][]int{{4, 9}, {}}, 9},
		{0, [][]int{{}}, 4},
		{1, [][]int{{4, 9}, {}}, 4},
		{2, [][]int{{4, 9}, {}, {0}}, 4},
		{2, [][]int{{4, 9}, {}, {1000}}, 1000},
		{2, [][]int{{4, 9}, {}, {4}}, 4},
		{2, [][]int{{4, 9}, {}, {9}}, 4},
		{2, [][]int{{4, 9}, {}, {}, {}, {}, {}}, 4},
	} {
		checkDigMoves(t, impl.Yard{High: k.high, Stacks: k.stacks}, k.id, nil, false)
	}
}

func TestP62BoxesAreLaidBare(t *testing.T) {
	for _, y := range validYards() {
		for at, s := range y.Stacks {
			for _, id := range s {
				want, bare, can := digOf(y, id)
				list, ok := impl.DigMoves(y, id)
				if ok != can || !slices.Equal(list, want) {
					t.Fatalf("DigMoves of %v, %d is %v, %v, not %v, %v", y, id, list, ok, want, can)
				}
				if !ok {
					continue
				}
				after, done := impl.YardRun(y, list)
				if done != len(list) || done != impl.StackAbove(s, y.High, id) || !sameYard(after, bare) {
					t.Fatalf("YardRun of %v, %v is %v, %d", y, list, after, done)
				}
				if impl.YardFind(after, id) != at || impl.StackAbove(after.Stacks[at], y.High, id) != 0 {
					t.Fatalf("after %v, %d is not bare in %v", list, id, after)
				}
			}
		}
	}
}

func TestDigMovesOfOtherIds(t *testing.T) {
	for _, y := range fewYards() {
		ids := slices.Concat(strangeIds, idsNotValid, yardIds)
		for _, id := range boxesOf(y) {
			ids = append(ids, -id, id+1000, id+1<<32, id+math.MinInt)
		}
		for _, id := range ids {
			if at, _ := whereIn(y, id); at < 0 {
				checkDigMoves(t, y, id, nil, false)
			}
		}
	}
}

func TestDigMovesInOtherYards(t *testing.T) {
	for _, y := range invalidYards() {
		boxes := boxesOf(y)
		for _, id := range append([]int{0, 4, 17}, boxes[:min(len(boxes), 6)]...) {
			checkDigMoves(t, y, id, nil, false)
		}
	}
}

// checkDigAll asks twice, as checkYardPut does.
func checkDigAll(t *testing.T, y impl.Yard, order []int, want int, wantOk bool) {
	t.Helper()
	for range 2 {
		if got, ok := impl.DigAll(y, order); got != want || ok != wantOk {
			t.Fatalf("DigAll of %v, %v is %d, %v, not %d, %v", y, order, got, ok, want, wantOk)
		}
	}
}

func TestDigAllInKnownYards(t *testing.T) {
	three := [][]int{{4, 9, 2}, {7}, {5, 6}}
	for _, k := range []struct {
		high   int
		stacks [][]int
		order  []int
		want   int
	}{
		{3, three, []int{4, 9}, 2},
		// Orders without boxes and of one box; those above never leave.
		{3, three, nil, 0},
		{3, three, []int{2}, 0},
		{3, three, []int{9}, 1},
		{3, three, []int{4}, 2},
		{3, three, []int{5}, 1},
		// All boxes, with nothing in the way.
		{3, three, []int{2, 9, 4, 7, 6, 5}, 0},
		{3, three, []int{6, 2, 5, 9, 7, 4}, 0},
		// What is in the way leaves later itself: once moved, it lies bare, or in the way again.
		{3, [][]int{{4, 9, 2}, {}, {}}, []int{4, 9, 2}, 2},
		{3, [][]int{{4, 9, 2}, {}}, []int{4, 9, 2}, 2},
		{3, [][]int{{4, 9, 2}, {}}, []int{4, 2, 9}, 3},
		{3, [][]int{{4, 9, 2}, {7}}, []int{4, 7}, 4},
		{3, [][]int{{4, 9}, {7}}, []int{4, 7, 9}, 2},
		{3, [][]int{{4, 9}, {7}}, []int{4, 7}, 2},
		// What is in the way lies above two boxes that leave.
		{3, [][]int{{4, 9, 2}, {}, {}}, []int{4, 9}, 2},
		{3, [][]int{{4, 9, 2}, {}, {}}, []int{9, 4}, 1},
		// Each box that leaves makes room.
		{2, [][]int{{4, 9}, {7, 8}}, []int{9, 7}, 1},
		{2, [][]int{{4, 9}, {7, 8}}, []int{9, 7, 4, 8}, 2},
		{2, [][]int{{4, 9}, {7, 8}}, []int{8, 4, 7, 9}, 2},
		{3, [][]int{{4, 9, 2}, {7, 8, 6}}, []int{6, 8, 4}, 2},
		// One stack, the least height, and no boxes.
		{5, [][]int{{1, 2, 3, 4, 999}}, []int{999, 4, 3, 2, 1}, 0},
		{5, [][]int{{1, 2, 3, 4, 999}}, []int{999, 4}, 0},
		{1, [][]int{{4}, {9}, {2}}, []int{2, 4, 9}, 0},
		{1, [][]int{{}}, nil, 0},
		{5, [][]int{{}, {}, {}, {}, {}}, nil, 0},
	} {
		checkDigAll(t, impl.Yard{High: k.high, Stacks: k.stacks}, k.order, k.want, true)
	}
}

func TestDigAllThatFails(t *testing.T) {
	for _, k := range []struct {
		high   int
		stacks [][]int
		order  []int
	}{
		// At the first box.
		{2, [][]int{{4, 9}, {7, 8}}, []int{4}},
		{2, [][]int{{4, 9}, {7, 8}}, []int{7, 9, 4, 8}},
		{5, [][]int{{4, 9}}, []int{4, 9}},
		{3, [][]int{{4, 9, 2}, {7, 8, 6}}, []int{9, 6}},
		// At a later one.
		{3, [][]int{{4, 9, 2}, {7, 8, 6}}, []int{6, 4}},
		{5, [][]int{{1, 2, 3, 4, 999}}, []int{999, 4, 2}},
		{5, [][]int{{1, 2, 3, 4, 999}}, []int{999, 4, 3, 1}},
		{3, [][]int{{4, 9, 2}, {7, 8, 6}}, []int{2, 7}},
		// No orders.
		{3, [][]int{{4, 9, 2}, {7}}, []int{8}},
		{3, [][]int{{4, 9, 2}, {7}}, []int{2, 8}},
		{3, [][]int{{4, 9, 2}, {7}}, []int{2, 2}},
		{3, [][]int{{4, 9, 2}, {7}}, []int{2, 7, 2}},
		{3, [][]int{{4, 9, 2}, {7}}, []int{0}},
		{3, [][]int{{4, 9, 2}, {7}}, []int{2, -9}},
		{3, [][]int{{4, 9, 2}, {7}}, []int{2, 1000}},
		{3, [][]int{{}, {}}, []int{4}},
		// Yards that are not valid.
		{2, nil, nil},
		{6, [][]int{{4, 9}, {}}, nil},
		{6, [][]int{{4, 9}, {}}, []int{9}},
		{1, [][]int{{4, 9}, {}}, []int{9}},
		{2, [][]int{{4, 9}, {4}}, []int{9}},
		{2, [][]int{{4, 9}, {4}}, nil},
		{2, [][]int{{4, 9}, {}, {}, {}, {}, {}}, []int{9}},
	} {
		checkDigAll(t, impl.Yard{High: k.high, Stacks: k.stacks}, k.order, -1, false)
	}
}

// checkP4 returns whether all boxes of an order could leave.
func checkP4(t *testing.T, y impl.Yard, order []int) bool {
	t.Helper()
	made, ok := impl.DigAll(y, order)
	if want, can := digAllOf(y, order); made != want || ok != can {
		t.Fatalf("DigAll of %v, %v is %d, %v, not %d, %v", y, order, made, ok, want, can)
	}
	if !ok && roomOf(y) >= y.High-1 {
		t.Fatalf("DigAll of %v, %v fails with room for %d boxes", y, order, roomOf(y))
	}
	if blocking := impl.Blocking(y, order); ok && (blocking < 0 || made < blocking) {
		t.Fatalf("DigAll of %v, %v is %d, Blocking %d", y, order, made, blocking)
	}
	return ok
}

func TestP4AllBoxesCanLeaveIfThereIsRoom(t *testing.T) {
	failed := 0
	for i, y := range validYards() {
		for _, order := range someOrders(y, uint32(i)) {
			if !checkP4(t, y, order) {
				failed++
			}
		}
	}
	if failed < 100 {
		t.Fatalf("only %d orders have failed", failed)
	}
}

func TestP4OfAllOrders(t *testing.T) {
	for _, y := range append(smallYards(), yardOf(5, 5, 0), yardOf(3, 3, 2), yardOf(2, 2, 2, 1)) {
		for _, order := range ordersOf(boxesOf(y)) {
			checkP4(t, y, order)
		}
	}
}

// TestP4WithJustEnoughRoom has the fullest yards in which no order may fail, and those with room for one box less.
func TestP4WithJustEnoughRoom(t *testing.T) {
	for high := 1; high <= 5; high++ {
		for many := 1; many <= 5; many++ {
			for at := range many {
				for lower := range many {
					heights := slices.Repeat([]int{high}, many)
					heights[at]--
					for range high - 2 {
						heights[lower] = max(heights[lower]-1, 0)
					}
					for seed := range 20 {
						y := yardOf(high, heights...)
						for _, order := range someOrders(y, uint32(seed)) {
							checkP4(t, y, order)
						}
					}
				}
			}
		}
	}
}

// TestDigAllOfManyMoves has an order that takes more moves than one list of moves may have.
func TestDigAllOfManyMoves(t *testing.T) {
	y := yardOf(5, 5, 5, 5, 5, 1)
	order := []int{120, 500, 998, 256, 2, 888, 45, 640, 999, 404, 8, 901, 5, 333, 33, 61, 77, 17, 1, 750, 12}
	checkP4(t, y, order)
	checkDigAll(t, y, order, impl.MaxMoves+4, true)
}

func TestDigAllOfOtherOrders(t *testing.T) {
	for i, y := range fewYards() {
		for _, order := range otherOrders(y, uint32(i)) {
			checkDigAll(t, y, order, -1, false)
		}
	}
}

func TestDigAllInOtherYards(t *testing.T) {
	for _, y := range invalidYards() {
		boxes := boxesOf(y)
		for _, order := range [][]int{nil, {}, {17}, {0}, boxes, boxes[:min(len(boxes), 1)], boxes[max(len(boxes)-1, 0):]} {
			checkDigAll(t, y, order, -1, false)
		}
	}
}

func TestDiggingChangesNothing(t *testing.T) {
	for i, y := range append(fewYards(), invalidYards()...) {
		own, whole, beyond := inOneList(y)
		before := slices.Clone(whole)
		boxes := boxesOf(y)
		order := append(shuffled(boxes, numbersFrom(uint32(i))), -7, -8)
		orderBefore := slices.Clone(order)
		for _, many := range []int{0, len(boxes) / 2, len(boxes), len(order)} {
			impl.OrderOk(own, order[:many])
			impl.Blocking(own, order[:many])
			impl.DigAll(own, order[:many])
		}
		for _, id := range append(boxes, 4, 0) {
			impl.DigMoves(own, id)
		}
		if !sameYard(own, y) || !slices.Equal(whole, before) || !slices.Equal(beyond[len(y.Stacks)], []int{-1}) || !slices.Equal(beyond[len(y.Stacks)+1], []int{-2}) {
			t.Fatalf("%v was changed to %v, with %v behind it", y, own, whole)
		}
		if !slices.Equal(order, orderBefore) {
			t.Fatalf("%v was changed to %v", orderBefore, order)
		}
	}
}

func TestDigMovesShareNoMemory(t *testing.T) {
	for _, y := range fewYards() {
		for _, id := range boxesOf(y) {
			first, _ := impl.DigMoves(y, id)
			before := slices.Clone(first)
			second, _ := impl.DigMoves(y, id)
			for i := range second[:cap(second)] {
				second[:cap(second)][i] = impl.Move{From: -5, To: -5}
			}
			if third, _ := impl.DigMoves(y, id); !slices.Equal(first, before) || !slices.Equal(third, before) {
				t.Fatalf("two answers of DigMoves for %v, %d share memory", y, id)
			}
		}
	}
}
