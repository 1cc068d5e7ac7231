package tests

import (
	"slices"
	"testing"

	"loop.example/containerport/impl"
)

// filled has the plan that FillPlan returns for its ship and its boxes.
func (l loading) filled() loading {
	return l.with(impl.FillPlan(l.ship, l.boxes))
}

func (l loading) leftOver() []int {
	return impl.LeftOver(l.ship, l.boxes, l.plan)
}

// everyPort has all ports.
var everyPort = []int{0, 1, 2, 3, 4, 5, 6}

// bound is a box with what matters when a ship is filled.
func bound(id int, weight int, port int) impl.Box {
	return impl.Box{Id: id, Weight: weight, Port: port}
}

// isAhead goes by the document: whether a box is loaded ahead of another one.
func isAhead(b impl.Box, other impl.Box) bool {
	if b.Port != other.Port {
		return b.Port > other.Port
	}
	if b.Weight != other.Weight {
		return b.Weight > other.Weight
	}
	return b.Id < other.Id
}

// fillOrderOf goes by the document, for valid boxes: each has as many ahead of it as isAhead tells.
func fillOrderOf(boxes []impl.Box) []int {
	order := make([]int, len(boxes))
	for _, b := range boxes {
		ahead := 0
		for _, other := range boxes {
			if isAhead(other, b) {
				ahead++
			}
		}
		order[ahead] = b.Id
	}
	return order
}

// fillPlanOf goes by the document, for a valid ship and valid boxes: row by row it looks for the first one with the least weight that is not full.
func fillPlanOf(h impl.Hull, boxes []impl.Box) []int {
	plan := make([]int, len(placesOf(h)))
	rows := rowsOf(h)
	weights, heights := make([]int, len(rows)), make([]int, len(rows))
	for _, id := range fillOrderOf(boxes) {
		lightest := -1
		for i := range rows {
			if heights[i] < h.Tiers && (lightest == -1 || weights[i] < weights[lightest]) {
				lightest = i
			}
		}
		if lightest == -1 {
			return plan
		}
		plan[rows[lightest][heights[lightest]]] = id
		heights[lightest]++
		weights[lightest] += boxes[slices.Index(idsOf(boxes), id)].Weight
	}
	return plan
}

// mixedBoxes has so many boxes, each for one of some ports and of one of some weights, whose ids are in no order.
func mixedBoxes(many int, ports []int, weights []int, next func(int) int) []impl.Box {
	var boxes []impl.Box
	for _, id := range shuffled(idsOf(manyBoxes()), next)[:many] {
		boxes = append(boxes, impl.Box{Id: id, Weight: weights[next(len(weights))], Class: next(4), Port: ports[next(len(ports))], Cold: next(2) == 1})
	}
	return boxes
}

// everyWeight has all weights that a box can have.
func everyWeight() []int {
	return numberedIds(30)
}

// grownFillings has all ships with every number of boxes: for one port, some and all, and of one weight, some and all.
func grownFillings() []loading {
	var list []loading
	for i, h := range validShips() {
		next := numbersFrom(uint32(500 + i))
		for many := range 11 {
			for _, ports := range [][]int{{next(7)}, {0, 3, 6}, everyPort} {
				for _, weights := range [][]int{{1 + next(30)}, {1, 2, 3}, everyWeight()} {
					list = append(list, loading{h, mixedBoxes(many, ports, weights, next), nil})
				}
			}
		}
	}
	return list
}

// smallFillings has all lists of at most three boxes for some ports and with some weights, and some ships of one, two, three and four slots.
func smallFillings() []loading {
	var list []loading
	for many := range 4 {
		for _, ports := range portsLists(many, []int{0, 5, 6}) {
			for _, weights := range portsLists(many, []int{1, 2, 30}) {
				var boxes []impl.Box
				for i, id := range []int{2, 3, 1}[:many] {
					boxes = append(boxes, bound(id, weights[i], ports[i]))
				}
				for _, h := range []impl.Hull{oneSlot, {Bays: 2, Rows: 1, Tiers: 1}, {Bays: 1, Rows: 1, Tiers: 3}, {Bays: 1, Rows: 3, Tiers: 1}, {Bays: 1, Rows: 2, Tiers: 2}, {Bays: 2, Rows: 1, Tiers: 2}} {
					list = append(list, loading{h, boxes, nil})
				}
			}
		}
	}
	return list
}

// likeBoxes has lists of four boxes that differ in the Port, the Weight or the Id alone, or in each two of these.
func likeBoxes() [][]impl.Box {
	return [][]impl.Box{
		{bound(1, 5, 3), bound(2, 5, 3), bound(3, 5, 3), bound(4, 5, 3)},
		{bound(9, 5, 6), bound(10, 5, 6), bound(99, 5, 6), bound(100, 5, 6)},
		{bound(1, 1, 3), bound(2, 2, 3), bound(3, 29, 3), bound(4, 30, 3)},
		{bound(4, 1, 3), bound(3, 2, 3), bound(2, 29, 3), bound(1, 30, 3)},
		{bound(1, 5, 0), bound(2, 5, 1), bound(3, 5, 5), bound(4, 5, 6)},
		{bound(4, 5, 0), bound(3, 5, 1), bound(2, 5, 5), bound(1, 5, 6)},
		{bound(1, 30, 0), bound(2, 29, 1), bound(3, 2, 5), bound(4, 1, 6)},
		{bound(1, 5, 2), bound(2, 5, 2), bound(3, 6, 2), bound(4, 6, 2)},
		{bound(1, 5, 2), bound(2, 6, 2), bound(3, 5, 1), bound(4, 6, 1)},
		{bound(999, 5, 0), bound(1, 5, 0), bound(998, 5, 6), bound(2, 5, 6)},
	}
}

// likeFillings has all or some of the boxes of likeBoxes in every order, and ships for some of them, for all, and with room for more.
func likeFillings() []loading {
	var list []loading
	for _, boxes := range likeBoxes() {
		for _, order := range ordersOf([]int{0, 1, 2, 3}) {
			var given []impl.Box
			for _, i := range order {
				given = append(given, boxes[i])
			}
			for _, h := range []impl.Hull{oneSlot, {Bays: 1, Rows: 3, Tiers: 1}, {Bays: 1, Rows: 2, Tiers: 2}, {Bays: 2, Rows: 1, Tiers: 3}} {
				list = append(list, loading{h, given, nil})
			}
		}
	}
	return list
}

// fillings has all ships and boxes for which filling is tested.
func fillings() []loading {
	var list []loading
	for _, h := range validShips() {
		for _, boxes := range validLists() {
			list = append(list, loading{h, boxes, nil})
		}
	}
	return slices.Concat(list, smallFillings(), likeFillings(), grownFillings())
}

// knownFilling is a ship and boxes with the plan for them, and with the order and the boxes that are left, all worked out by hand.
type knownFilling struct {
	loading
	order []int
	left  []int
}

// knownSmallFillings has ships of few slots.
func knownSmallFillings() []knownFilling {
	ship := func(bays int, rows int, tiers int) impl.Hull {
		return impl.Hull{Bays: bays, Rows: rows, Tiers: tiers}
	}
	list := func(boxes ...impl.Box) []impl.Box { return boxes }
	return []knownFilling{
		// No boxes, and one.
		{loading{oneSlot, nil, []int{0}}, nil, nil},
		{loading{ship(2, 1, 2), list(), make([]int, 4)}, nil, nil},
		{loading{oneSlot, list(bound(17, 20, 3)), []int{17}}, []int{17}, nil},
		{loading{ship(1, 2, 2), list(bound(999, 30, 6)), []int{999, 0, 0, 0}}, []int{999}, nil},
		{loading{ship(2, 1, 1), list(bound(1, 1, 0)), []int{1, 0}}, []int{1}, nil},
		// One slot, for the first of several boxes: by its port, its weight and its id.
		{loading{oneSlot, list(bound(1, 5, 2), bound(2, 9, 1), bound(3, 1, 6)), []int{3}}, []int{3, 1, 2}, []int{1, 2}},
		{loading{oneSlot, list(bound(2, 9, 1), bound(3, 1, 6), bound(1, 5, 2)), []int{3}}, []int{3, 1, 2}, []int{2, 1}},
		{loading{oneSlot, list(bound(1, 5, 2), bound(2, 6, 2), bound(3, 4, 2)), []int{2}}, []int{2, 1, 3}, []int{1, 3}},
		{loading{oneSlot, list(bound(7, 5, 2), bound(3, 5, 2), bound(9, 5, 2)), []int{3}}, []int{3, 7, 9}, []int{7, 9}},
		{loading{oneSlot, list(bound(9, 5, 2), bound(7, 5, 2), bound(3, 5, 2)), []int{3}}, []int{3, 7, 9}, []int{9, 7}},
		// The port 0 and MaxPort, the least weight and the greatest one.
		{loading{oneSlot, list(bound(1, 30, 0), bound(2, 1, 6)), []int{2}}, []int{2, 1}, []int{1}},
		{loading{ship(1, 1, 2), list(bound(1, 30, 0), bound(2, 1, 6)), []int{2, 1}}, []int{2, 1}, nil},
		{loading{ship(1, 1, 2), list(bound(1, 1, 0), bound(2, 30, 0), bound(3, 1, 6)), []int{3, 2}}, []int{3, 2, 1}, []int{1}},
		// One row of one bay: the heavier box is lower only if both are for the same port.
		{loading{ship(1, 1, 3), list(bound(1, 1, 0), bound(2, 30, 6), bound(3, 2, 0)), []int{2, 3, 1}}, []int{2, 3, 1}, nil},
		{loading{ship(1, 1, 3), list(bound(1, 1, 6), bound(2, 30, 0)), []int{1, 2, 0}}, []int{1, 2}, nil},
		{loading{ship(1, 1, 3), list(bound(4, 3, 1), bound(3, 3, 1), bound(2, 4, 1), bound(1, 2, 1)), []int{2, 3, 4}}, []int{2, 3, 4, 1}, []int{1}},
		// One tier, in one bay and in several.
		{loading{ship(1, 3, 1), list(bound(1, 5, 0), bound(2, 6, 0), bound(3, 7, 0), bound(4, 8, 0)), []int{4, 3, 2}}, []int{4, 3, 2, 1}, []int{1}},
		{loading{ship(4, 1, 1), list(bound(1, 5, 1), bound(2, 5, 2), bound(3, 5, 3), bound(4, 5, 4)), []int{4, 3, 2, 1}}, []int{4, 3, 2, 1}, nil},
		{loading{ship(4, 1, 1), list(bound(1, 5, 1), bound(2, 5, 1), bound(3, 5, 1)), []int{1, 2, 3, 0}}, []int{1, 2, 3}, nil},
		// All for the same port and of the same weight: the rest comes in the order of the boxes.
		{loading{ship(1, 2, 1), list(bound(9, 5, 0), bound(3, 5, 0), bound(12, 5, 0), bound(7, 5, 0)), []int{3, 7}}, []int{3, 7, 9, 12}, []int{9, 12}},
		{loading{ship(1, 2, 1), list(bound(12, 5, 0), bound(9, 5, 0), bound(3, 5, 0), bound(7, 5, 0)), []int{3, 7}}, []int{3, 7, 9, 12}, []int{12, 9}},
	}
}

// knownRows has rows of which the lightest one is not always the first one, nor always one with room.
func knownRows() []knownFilling {
	ship := func(bays int, rows int, tiers int) impl.Hull {
		return impl.Hull{Bays: bays, Rows: rows, Tiers: tiers}
	}
	list := func(boxes ...impl.Box) []impl.Box { return boxes }
	return []knownFilling{
		// As many boxes as slots, one fewer, and one more.
		{loading{ship(1, 2, 2), list(bound(1, 9, 3), bound(2, 4, 3), bound(3, 4, 2), bound(4, 2, 1)), []int{1, 4, 2, 3}}, []int{1, 2, 3, 4}, nil},
		{loading{ship(1, 2, 2), list(bound(1, 9, 3), bound(2, 4, 3), bound(3, 4, 2)), []int{1, 0, 2, 3}}, []int{1, 2, 3}, nil},
		{loading{ship(1, 2, 2), list(bound(1, 9, 3), bound(2, 4, 3), bound(3, 4, 2), bound(4, 2, 1), bound(5, 3, 1)), []int{1, 5, 2, 3}}, []int{1, 2, 3, 5, 4}, []int{4}},
		// The lightest row is full, and stays so.
		{loading{ship(1, 2, 2), list(bound(1, 30, 6), bound(2, 1, 5), bound(3, 1, 4), bound(4, 30, 3)), []int{1, 4, 2, 3}}, []int{1, 2, 3, 4}, nil},
		{loading{ship(1, 2, 2), list(bound(5, 30, 2), bound(1, 30, 6), bound(2, 1, 5), bound(3, 1, 4), bound(4, 30, 3)), []int{1, 4, 2, 3}}, []int{1, 2, 3, 4, 5}, []int{5}},
		{loading{ship(1, 2, 3), list(bound(1, 30, 6), bound(2, 1, 5), bound(3, 1, 4), bound(4, 1, 3), bound(5, 1, 2)), []int{1, 5, 0, 2, 3, 4}}, []int{1, 2, 3, 4, 5}, nil},
		{
			loading{ship(1, 3, 2), list(bound(1, 30, 6), bound(2, 20, 6), bound(3, 1, 6), bound(4, 2, 5), bound(5, 4, 4), bound(6, 7, 3), bound(7, 1, 2)), []int{1, 6, 2, 5, 3, 4}},
			[]int{1, 2, 3, 4, 5, 6, 7}, []int{7},
		},
		// Rows that are equally light: without boxes, with one each, and with sums that are equal.
		{loading{ship(2, 1, 2), list(bound(1, 5, 6), bound(2, 5, 6), bound(3, 5, 6), bound(4, 5, 6)), []int{1, 3, 2, 4}}, []int{1, 2, 3, 4}, nil},
		{loading{ship(1, 3, 2), list(bound(1, 10, 6), bound(2, 6, 6), bound(3, 6, 6), bound(4, 1, 5)), []int{1, 0, 2, 4, 3, 0}}, []int{1, 2, 3, 4}, nil},
		{loading{ship(1, 3, 3), list(bound(1, 10, 6), bound(2, 6, 6), bound(3, 4, 6), bound(4, 2, 5), bound(5, 1, 4)), []int{1, 0, 0, 2, 5, 0, 3, 4, 0}}, []int{1, 2, 3, 4, 5}, nil},
		{loading{ship(3, 1, 3), list(bound(1, 10, 6), bound(2, 6, 6), bound(3, 4, 6), bound(4, 2, 5), bound(5, 1, 4)), []int{1, 0, 0, 2, 5, 0, 3, 4, 0}}, []int{1, 2, 3, 4, 5}, nil},
		// Of two equally light rows the first one is full.
		{loading{ship(1, 2, 2), list(bound(1, 9, 6), bound(2, 7, 6), bound(3, 2, 5), bound(4, 1, 4)), []int{1, 4, 2, 3}}, []int{1, 2, 3, 4}, nil},
		{loading{ship(1, 2, 2), list(bound(1, 1, 6), bound(2, 30, 5), bound(3, 29, 4), bound(4, 1, 3)), []int{1, 3, 2, 4}}, []int{1, 2, 3, 4}, nil},
		{loading{ship(1, 3, 1), list(bound(1, 1, 6), bound(2, 1, 6)), []int{1, 2, 0}}, []int{1, 2}, nil},
		// By one lighter.
		{loading{ship(1, 2, 2), list(bound(1, 5, 6), bound(2, 4, 6), bound(3, 1, 1)), []int{1, 0, 2, 3}}, []int{1, 2, 3}, nil},
		{loading{ship(1, 2, 2), list(bound(1, 4, 6), bound(2, 5, 5), bound(3, 1, 1)), []int{1, 3, 2, 0}}, []int{1, 2, 3}, nil},
	}
}

// knownFillings has also MaxBoxes boxes: those for the ports 6 to 0 are 998 and 999 (30 each), 50 (28), 40 (9), 17 (20), 500 (7), and 400 (13), 4 (9), 1 and 2 (1 each).
func knownFillings() []knownFilling {
	ship := func(bays int, rows int, tiers int) impl.Hull {
		return impl.Hull{Bays: bays, Rows: rows, Tiers: tiers}
	}
	ten, order := manyBoxes(), []int{998, 999, 50, 40, 17, 500, 400, 4, 1, 2}
	apart := make([]int, 36)
	for row, id := range order {
		apart[3*row] = id
	}
	return slices.Concat(knownSmallFillings(), knownRows(), []knownFilling{
		{loading{mostSlots, ten, apart}, order, nil},
		{loading{ship(2, 2, 3), ten, []int{998, 4, 0, 999, 1, 2, 50, 500, 0, 40, 17, 400}}, order, nil},
		{loading{ship(1, 3, 3), ten, []int{998, 17, 1, 999, 500, 400, 50, 40, 4}}, order, []int{2}},
		{loading{ship(4, 1, 2), ten, []int{998, 400, 999, 4, 50, 500, 40, 17}}, order, []int{1, 2}},
		{loading{ship(1, 3, 2), ten, []int{998, 17, 999, 500, 50, 40}}, order, []int{1, 2, 4, 400}},
		{loading{ship(3, 1, 1), ten, []int{998, 999, 50}}, order, []int{500, 1, 2, 17, 4, 40, 400}},
		{loading{ship(1, 1, 3), ten, []int{998, 999, 50}}, order, []int{500, 1, 2, 17, 4, 40, 400}},
		{loading{oneSlot, ten, []int{998}}, order, []int{500, 999, 1, 2, 17, 4, 40, 400, 50}},
		// All of one weight and for one port.
		{loading{ship(2, 1, 3), heaviestBoxes(), []int{1, 3, 5, 2, 4, 6}}, numberedIds(10), []int{7, 8, 9, 10}},
	})
}

func TestFillOrderOfKnownBoxes(t *testing.T) {
	for _, k := range knownFillings() {
		if got := impl.FillOrder(k.boxes); !slices.Equal(got, k.order) {
			t.Errorf("FillOrder of %+v is %v, not %v", k.boxes, got, k.order)
		}
	}
}

func TestFillPlanOfKnownShips(t *testing.T) {
	for _, k := range knownFillings() {
		if got := k.filled().plan; !slices.Equal(got, k.plan) {
			t.Errorf("FillPlan of %+v, %+v is %v, not %v", k.ship, k.boxes, got, k.plan)
		}
	}
}

func TestLeftOverOfKnownPlans(t *testing.T) {
	for _, k := range knownFillings() {
		if got := k.leftOver(); !slices.Equal(got, k.left) {
			t.Errorf("LeftOver of %+v is %v, not %v", k.loading, got, k.left)
		}
	}
}

// Plans that no one filled: also those in which boxes lie in the way.
func TestLeftOverOfOtherKnownPlans(t *testing.T) {
	boxes := []impl.Box{bound(5, 1, 0), bound(3, 9, 6), bound(9, 4, 2), bound(1, 4, 2)}
	for _, k := range []struct {
		plan []int
		left []int
	}{
		{[]int{0, 0, 0, 0}, []int{5, 3, 9, 1}},
		{[]int{9, 0, 0, 0}, []int{5, 3, 1}},
		{[]int{0, 0, 1, 0}, []int{5, 3, 9}},
		{[]int{5, 3, 0, 0}, []int{9, 1}},
		{[]int{3, 0, 1, 0}, []int{5, 9}},
		{[]int{1, 9, 3, 0}, []int{5}},
		{[]int{5, 9, 1, 0}, []int{3}},
		{[]int{5, 3, 9, 1}, nil},
		{[]int{1, 5, 9, 3}, nil},
	} {
		l := loading{impl.Hull{Bays: 1, Rows: 2, Tiers: 2}, boxes, k.plan}
		if got := l.leftOver(); !slices.Equal(got, k.left) {
			t.Errorf("LeftOver of %+v is %v, not %v", l, got, k.left)
		}
	}
}

// Of all ships and boxes every answer is held against the document.
func TestFillingOfValidShips(t *testing.T) {
	for _, l := range fillings() {
		if got, want := impl.FillOrder(l.boxes), fillOrderOf(l.boxes); !slices.Equal(got, want) {
			t.Fatalf("FillOrder of %+v is %v, not %v", l.boxes, got, want)
		}
		full := l.filled()
		if want := fillPlanOf(l.ship, l.boxes); !slices.Equal(full.plan, want) {
			t.Fatalf("FillPlan of %+v, %+v is %v, not %v", l.ship, l.boxes, full.plan, want)
		}
		if got, want := full.leftOver(), full.notLoaded(); !slices.Equal(got, want) {
			t.Fatalf("LeftOver of %+v is %v, not %v", full, got, want)
		}
	}
}

// slotsWithout has the slots of a plan without a box.
func slotsWithout(l loading) []int {
	var list []int
	for slot, id := range l.plan {
		if id == 0 {
			list = append(list, slot)
		}
	}
	return list
}

func TestP13AFilledShipHasNoOverstowage(t *testing.T) {
	left, none, high := 0, 0, 0
	for _, l := range fillings() {
		full := l.filled()
		if !full.valid() || !planIsValid(full) {
			t.Fatalf("FillPlan of %+v, %+v is %v, which is not valid", l.ship, l.boxes, full.plan)
		}
		if told, counted := full.overstows(), overstowsOf(full); told != 0 || counted != 0 {
			t.Fatalf("FillPlan of %+v, %+v is %v, with %d Overstows, or %d", l.ship, l.boxes, full.plan, told, counted)
		}
		if got, want := full.voyageMoves(), len(fullSlots(full)); got != want {
			t.Fatalf("FillPlan of %+v, %+v is %v, with %d boxes, but %d VoyageMoves", l.ship, l.boxes, full.plan, want, got)
		}
		rest := full.leftOver()
		if len(rest) > 0 && len(slotsWithout(full)) > 0 {
			t.Fatalf("FillPlan of %+v, %+v is %v, though %v are left", l.ship, l.boxes, full.plan, rest)
		}
		if got, want := len(fullSlots(full)), min(len(l.boxes), len(placesOf(l.ship))); got != want {
			t.Fatalf("FillPlan of %+v, %+v is %v, with %d boxes, not %d", l.ship, l.boxes, full.plan, got, want)
		}
		if len(rest) > 0 {
			left++
		} else {
			none++
		}
		for _, slot := range fullSlots(full) {
			if len(fullBelow(full, slot)) > 0 {
				high++
			}
		}
	}
	if left < 1000 || none < 1000 || high < 1000 {
		t.Fatalf("of %d ships boxes are left, of %d none are, and %d lie on others", left, none, high)
	}
}

func TestP13EveryBoxHasItsMoveOnly(t *testing.T) {
	for _, l := range append(grownFillings(), likeFillings()...) {
		full := l.filled()
		times := onVoyage(full)
		for _, id := range full.ids() {
			if times[id] != 1 {
				t.Fatalf("FillPlan of %+v, %+v is %v, and %d is taken off %d times", l.ship, l.boxes, full.plan, id, times[id])
			}
		}
	}
}

// The boxes that are left are those that come last.
func TestP13TheLastOnesAreLeft(t *testing.T) {
	for _, l := range fillings() {
		full := l.filled()
		order, many := impl.FillOrder(l.boxes), len(fullSlots(full))
		on, left := full.ids(), full.leftOver()
		for i, id := range order {
			if slices.Contains(on, id) != (i < many) || slices.Contains(left, id) != (i >= many) {
				t.Fatalf("FillPlan of %+v, %+v is %v, and %v are left, but FillOrder is %v", l.ship, l.boxes, full.plan, left, order)
			}
		}
	}
}

func TestP92LaterPortsComeFirst(t *testing.T) {
	ports, weights, equal := 0, 0, 0
	for _, l := range fillings() {
		order := impl.FillOrder(l.boxes)
		sorted, ids := slices.Clone(order), idsOf(l.boxes)
		slices.Sort(sorted)
		slices.Sort(ids)
		if !slices.Equal(sorted, ids) {
			t.Fatalf("FillOrder of %+v is %v", l.boxes, order)
		}
		for i := range order {
			for j := range i {
				b, later := l.boxes[slices.Index(idsOf(l.boxes), order[j])], l.boxes[slices.Index(idsOf(l.boxes), order[i])]
				if !isAhead(b, later) {
					t.Fatalf("FillOrder of %+v is %v, with %d ahead of %d", l.boxes, order, b.Id, later.Id)
				}
				switch {
				case b.Port > later.Port:
					ports++
				case b.Weight > later.Weight:
					weights++
				default:
					equal++
				}
			}
		}
	}
	if ports < 1000 || weights < 1000 || equal < 1000 {
		t.Fatalf("%d boxes come first for their port, %d for their weight, %d for their id", ports, weights, equal)
	}
}

// Every list of at most four boxes with two ports, two weights, and the ids in every order.
func TestP92OfEveryOrder(t *testing.T) {
	for _, ids := range ordersOf(numberedIds(4)) {
		for _, kinds := range portsLists(len(ids), []int{0, 1, 2, 3}) {
			var boxes []impl.Box
			for i, kind := range kinds {
				boxes = append(boxes, bound(ids[i], 10+kind%2, 4+kind/2))
			}
			if got, want := impl.FillOrder(boxes), fillOrderOf(boxes); !slices.Equal(got, want) {
				t.Fatalf("FillOrder of %+v is %v, not %v", boxes, got, want)
			}
		}
	}
}

// In whatever order the boxes are given, the order and the plan are the same, and only what is left comes in their order.
func TestFillingDoesNotDependOnTheOrderOfBoxes(t *testing.T) {
	for i, l := range grownFillings() {
		full, order := l.filled(), impl.FillOrder(l.boxes)
		down := slices.Clone(l.boxes)
		slices.Reverse(down)
		for _, boxes := range [][]impl.Box{down, shuffled(l.boxes, numbersFrom(uint32(i)))} {
			other := loading{l.ship, boxes, nil}.filled()
			if got := impl.FillOrder(boxes); !slices.Equal(got, order) {
				t.Fatalf("FillOrder of %+v is %v, and of %+v it is %v", l.boxes, order, boxes, got)
			}
			if !slices.Equal(other.plan, full.plan) {
				t.Fatalf("FillPlan of %+v, %+v is %v, and of %+v it is %v", l.ship, l.boxes, full.plan, boxes, other.plan)
			}
			if got, want := other.leftOver(), other.notLoaded(); !slices.Equal(got, want) {
				t.Fatalf("LeftOver of %+v is %v, not %v", other, got, want)
			}
		}
	}
}

// What is dangerous or cold about a box does not matter.
func TestFillingDoesNotDependOnClasses(t *testing.T) {
	for _, l := range grownFillings() {
		var plain []impl.Box
		for _, b := range l.boxes {
			plain = append(plain, bound(b.Id, b.Weight, b.Port))
		}
		if got, want := impl.FillOrder(plain), impl.FillOrder(l.boxes); !slices.Equal(got, want) {
			t.Fatalf("FillOrder of %+v is %v, and of %+v it is %v", l.boxes, want, plain, got)
		}
		if got, want := l.withBoxes(plain).filled().plan, l.filled().plan; !slices.Equal(got, want) {
			t.Fatalf("FillPlan of %+v, %+v is %v, and of %+v it is %v", l.ship, l.boxes, want, plain, got)
		}
	}
}

// The plan grows box by box, each in the first one of the slots that are next whose row is lightest.
func TestEachBoxComesIntoTheLightestRow(t *testing.T) {
	chosen, equal, fuller := 0, 0, 0
	for _, l := range append(grownFillings(), smallFillings()...) {
		full := l.filled()
		now := l.with(impl.PlanEmpty(l.ship))
		for _, id := range impl.FillOrder(l.boxes) {
			slot := full.find(id)
			if slot == -1 {
				if len(now.next()) > 0 {
					t.Fatalf("FillPlan of %+v, %+v is %v, without %d", l.ship, l.boxes, full.plan, id)
				}
				continue
			}
			weights := now.rowWeights()
			own := weights[slot/l.ship.Tiers]
			if own > slices.Min(weights) {
				fuller++
			}
			for _, other := range now.next() {
				if weight := weights[other/l.ship.Tiers]; weight < own || weight == own && other < slot {
					t.Fatalf("FillPlan of %+v, %+v is %v: %d is in %d, but %d is ahead of it", l.ship, l.boxes, full.plan, id, slot, other)
				} else if weight > own {
					chosen++
				} else if other > slot && own > 0 {
					equal++
				}
			}
			plan, ok := now.put(slot, id)
			if !ok {
				t.Fatalf("FillPlan of %+v, %+v is %v: %d cannot be put into %d of %v", l.ship, l.boxes, full.plan, id, slot, now.plan)
			}
			now = now.with(plan)
		}
		if !slices.Equal(now.plan, full.plan) {
			t.Fatalf("FillPlan of %+v, %+v is %v, but grows to %v", l.ship, l.boxes, full.plan, now.plan)
		}
	}
	if chosen < 1000 || equal < 100 || fuller < 100 {
		t.Fatalf("%d rows are heavier, %d later ones as light, and %d times the lightest row is full", chosen, equal, fuller)
	}
}

// One box fewer that is left anyway, or comes last, changes nothing for the others.
func TestFillingWithoutTheLastBox(t *testing.T) {
	for _, l := range grownFillings() {
		if len(l.boxes) == 0 {
			continue
		}
		order, full := impl.FillOrder(l.boxes), l.filled()
		last := order[len(order)-1]
		fewer := l.withBoxes(slices.DeleteFunc(slices.Clone(l.boxes), func(b impl.Box) bool { return b.Id == last }))
		want := slices.Clone(full.plan)
		if slot := slices.Index(want, last); slot >= 0 {
			want[slot] = 0
		}
		if got := fewer.filled().plan; !slices.Equal(got, want) {
			t.Fatalf("FillPlan of %+v, %+v is %v, not %v", fewer.ship, fewer.boxes, got, want)
		}
		if got := impl.FillOrder(fewer.boxes); !slices.Equal(got, order[:len(order)-1]) {
			t.Fatalf("FillOrder of %+v is %v, not %v", fewer.boxes, got, order[:len(order)-1])
		}
	}
}

// plannedLoadings has valid plans with all, some and none of the boxes, whether filled or not.
func plannedLoadings() []loading {
	list := orderedLoadings()
	for _, l := range fillings() {
		list = append(list, l.filled())
	}
	return list
}

func TestP93EveryBoxIsOnTheShipOrLeftOver(t *testing.T) {
	all, some, none := 0, 0, 0
	for _, l := range plannedLoadings() {
		on, left := l.ids(), l.leftOver()
		if len(on)+len(left) != len(l.boxes) {
			t.Fatalf("of %+v %v are on the ship and %v are left", l, on, left)
		}
		for _, b := range l.boxes {
			if slices.Contains(on, b.Id) == slices.Contains(left, b.Id) {
				t.Fatalf("of %+v %v are on the ship and %v are left: %d", l, on, left, b.Id)
			}
		}
		switch len(left) {
		case 0:
			none++
		case len(l.boxes):
			all++
		default:
			some++
		}
	}
	if all < 50 || some < 1000 || none < 1000 {
		t.Fatalf("%d plans are empty, %d have some of the boxes and %d all", all, some, none)
	}
}

func TestLeftOnesComeInTheOrderOfTheBoxes(t *testing.T) {
	down := 0
	for _, l := range plannedLoadings() {
		for _, boxes := range [][]impl.Box{l.boxes, shuffled(l.boxes, numbersFrom(7))} {
			other := l.withBoxes(boxes)
			got := other.leftOver()
			if want := other.notLoaded(); !slices.Equal(got, want) {
				t.Fatalf("LeftOver of %+v is %v, not %v", other, got, want)
			}
			if !slices.IsSorted(got) {
				down++
			}
		}
	}
	if down < 1000 {
		t.Fatalf("only %d times the left ones are not in the order of their ids", down)
	}
}

// A plan without boxes leaves all of them, and one box that is put there is left no more.
func TestP93OneBoxMore(t *testing.T) {
	for _, l := range append(fewLoadings(), grownLoadings(10)...) {
		left := l.leftOver()
		if empty := l.with(impl.PlanEmpty(l.ship)).leftOver(); !slices.Equal(empty, idsOf(l.boxes)) {
			t.Fatalf("LeftOver of %+v, without a box on %+v, is %v", l.boxes, l.ship, empty)
		}
		next := l.next()
		for i, id := range left {
			if len(next) == 0 {
				break
			}
			plan, _ := l.put(next[i%len(next)], id)
			if got, want := l.with(plan).leftOver(), slices.Delete(slices.Clone(left), i, i+1); !slices.Equal(got, want) {
				t.Fatalf("LeftOver of %+v is %v, and with %d in %v it is %v, not %v", l, left, id, plan, got, want)
			}
		}
	}
}

func TestFillOrderOfOtherBoxes(t *testing.T) {
	for _, boxes := range invalidLists() {
		if got := impl.FillOrder(boxes); len(got) != 0 {
			t.Fatalf("FillOrder of %+v is %v", boxes, got)
		}
	}
	for _, b := range invalidBoxes() {
		for _, boxes := range [][]impl.Box{{b}, {bound(7, 5, 1), b}, {b, bound(7, 5, 1)}} {
			if got := impl.FillOrder(boxes); len(got) != 0 {
				t.Fatalf("FillOrder of %+v is %v", boxes, got)
			}
		}
	}
}

func TestFillPlanOfOtherArguments(t *testing.T) {
	for _, h := range validShips() {
		for _, boxes := range invalidLists() {
			if got := impl.FillPlan(h, boxes); len(got) != 0 {
				t.Fatalf("FillPlan of %+v, %+v is %v", h, boxes, got)
			}
		}
	}
	for _, h := range invalidShips() {
		for _, boxes := range [][]impl.Box{nil, numberedBoxes(1), manyBoxes(), numberedBoxes(11)} {
			if got := impl.FillPlan(h, boxes); len(got) != 0 {
				t.Fatalf("FillPlan of %+v, %+v is %v", h, boxes, got)
			}
		}
	}
}

func TestLeftOverOfOtherPlans(t *testing.T) {
	for _, l := range otherLashings() {
		if got := l.leftOver(); len(got) != 0 {
			t.Fatalf("LeftOver of %+v is %v", l, got)
		}
	}
}

// fillAnswersOf has all that is told of a ship and its boxes.
func fillAnswersOf(l loading) [][]int {
	return [][]int{impl.FillOrder(l.boxes), l.filled().plan, l.leftOver()}
}

// What is behind the end of the plan and of the boxes is read, too; and the answers are overwritten, so that memory shared with an argument shows.
func TestFilledShipsAreNotChanged(t *testing.T) {
	list := slices.Concat(fewLoadings(), otherLashings())
	for _, l := range append(smallFillings(), likeFillings()...) {
		list = append(list, l.filled())
	}
	for _, l := range list {
		own, wholePlan, wholeBoxes := withRoom(l)
		ship := own.ship
		for _, answer := range fillAnswersOf(own) {
			overwrite(answer)
		}
		if own.ship != ship || !slices.Equal(wholePlan, append(slices.Clone(l.plan), -7, -8, -9)) || !slices.Equal(wholeBoxes, append(slices.Clone(l.boxes), manyBoxes()...)) {
			t.Fatalf("%+v was changed to %+v, %v, %+v", l, own.ship, wholePlan, wholeBoxes)
		}
	}
}

// The answers of a first round are overwritten while those of a second one are read, and others are asked for in between.
func TestFillingKeepsNothingFromCallToCall(t *testing.T) {
	list := slices.Concat(fewLoadings(), grownLoadings(10), otherWeights(), likeFillings())
	var first, second [][][]int
	for _, l := range list {
		first = append(first, fillAnswersOf(l))
	}
	for _, l := range list {
		second = append(second, fillAnswersOf(l))
	}
	for i := len(list) - 1; i >= 0; i-- {
		if !slices.EqualFunc(second[i], first[i], slices.Equal) {
			t.Fatalf("the answers for %+v are %v, and were %v", list[i], second[i], first[i])
		}
		for j, answer := range first[i] {
			overwrite(answer)
			if !slices.EqualFunc(first[i][j+1:], second[i][j+1:], slices.Equal) {
				t.Fatalf("the answer %d for %+v shares memory with a later one", j, list[i])
			}
		}
		if again := fillAnswersOf(list[i]); !slices.EqualFunc(again, second[i], slices.Equal) {
			t.Fatalf("the answers for %+v are %v after the first ones were overwritten, not %v", list[i], again, second[i])
		}
	}
}
