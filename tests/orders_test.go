package tests

import (
	"math"
	"slices"
	"testing"

	"loop.example/containerport/impl"
)

func (l loading) loadOk(order []int) bool {
	return impl.LoadOk(l.ship, l.boxes, l.plan, order)
}

func (l loading) loadOrder() []int {
	return impl.LoadOrder(l.ship, l.boxes, l.plan)
}

func (l loading) worstHeel(order []int) int {
	return impl.WorstHeel(l.ship, l.boxes, l.plan, order)
}

func (l loading) bestOrder() ([]int, bool) {
	return impl.BestOrder(l.ship, l.boxes, l.plan)
}

// fullSlots has the slots of a plan that are not empty, in ascending order.
func fullSlots(l loading) []int {
	var list []int
	for slot, id := range l.plan {
		if id != 0 {
			list = append(list, slot)
		}
	}
	return list
}

// loadIsOk goes by the document, for a plan that is valid.
func loadIsOk(l loading, order []int) bool {
	sorted := slices.Clone(order)
	slices.Sort(sorted)
	if !slices.Equal(sorted, fullSlots(l)) {
		return false
	}
	for i, slot := range order {
		if slot%l.ship.Tiers > 0 && slices.Index(order, slot-1) > i {
			return false
		}
	}
	return true
}

// heelsOf has the heel of a valid plan behind every number of slots of an order, from none on.
func heelsOf(l loading, order []int) []int {
	list := []int{0}
	part := l.with(make([]int, len(l.plan)))
	for _, slot := range order {
		part = part.withSlot(slot, l.plan[slot])
		list = append(list, weightsOf(part).heel)
	}
	return list
}

// worstOf has the greatest of some heels, without its sign.
func worstOf(heels []int) int {
	worst := 0
	for _, heel := range heels {
		worst = max(worst, size(heel))
	}
	return worst
}

// orderSearch tries all orders of a valid plan that are allowed, the one with the lesser slot at the first difference first.
type orderSearch struct {
	loading
	heels map[int]int
	worst int
	best  []int
	many  int
}

func searchOrders(l loading) orderSearch {
	s := orderSearch{loading: l, heels: map[int]int{}, worst: math.MaxInt}
	for _, slot := range fullSlots(l) {
		s.heels[slot] = weightsOf(l.with(make([]int, len(l.plan))).withSlot(slot, l.plan[slot])).heel
	}
	s.goOn(nil, 0, 0)
	return s
}

func (s *orderSearch) goOn(order []int, heel int, worst int) {
	if len(order) == len(s.heels) {
		s.many++
		if worst < s.worst {
			s.worst, s.best = worst, slices.Clone(order)
		}
		return
	}
	for slot, id := range s.plan {
		floats := slot%s.ship.Tiers > 0 && !slices.Contains(order, slot-1)
		if id == 0 || floats || slices.Contains(order, slot) {
			continue
		}
		now := heel + s.heels[slot]
		s.goOn(append(order, slot), now, max(worst, size(now)))
	}
}

// allowedOrder has some order that is allowed for a valid plan.
func allowedOrder(l loading, next func(int) int) []int {
	var order []int
	part := l.with(make([]int, len(l.plan)))
	for range fullSlots(l) {
		can := slices.DeleteFunc(nextOf(part), func(slot int) bool { return l.plan[slot] == 0 })
		slot := can[next(len(can))]
		order = append(order, slot)
		part = part.withSlot(slot, l.plan[slot])
	}
	return order
}

// boxesThatWeigh has MaxBoxes boxes of weights up to a greatest one; the fewer weights there are, the more orders are equally good.
func boxesThatWeigh(most int, next func(int) int) []impl.Box {
	boxes := numberedBoxes(10)
	for i := range boxes {
		boxes[i].Weight = 1 + next(most)
	}
	return boxes
}

// grownLoading has so many boxes, each in one of the slots that are next, or as many as there are slots.
func grownLoading(h impl.Hull, boxes []impl.Box, many int, next func(int) int) loading {
	l := loading{h, boxes, make([]int, len(placesOf(h)))}
	for _, id := range shuffled(idsOf(boxes), next)[:many] {
		if can := nextOf(l); len(can) > 0 {
			l = l.withSlot(can[next(len(can))], id)
		}
	}
	return l
}

// grownLoadings has plans of all ships with every number of boxes up to a greatest one, with few and with many weights.
func grownLoadings(most int) []loading {
	var list []loading
	for i, h := range validShips() {
		next := numbersFrom(uint32(300 + i))
		for many := range min(most, len(placesOf(h))) + 1 {
			for _, weight := range []int{1, 3, 30} {
				list = append(list, grownLoading(h, boxesThatWeigh(weight, next), many, next))
			}
		}
	}
	return list
}

// orderedLoadings has all valid plans for which orders are tested.
func orderedLoadings() []loading {
	return append(weighedLoadings(), grownLoadings(10)...)
}

// knownOrder is a valid plan with its best order, the heels behind each of its slots, and the order tier by tier, all counted by hand.
type knownOrder struct {
	loading
	best  []int
	heels []int
	tiers []int
}

// weighing has boxes with the ids from 1 on and these weights.
func weighing(weights ...int) []impl.Box {
	boxes := numberedBoxes(len(weights))
	for i, weight := range weights {
		boxes[i].Weight = weight
	}
	return boxes
}

func knownOrders() []knownOrder {
	ship := func(bays int, rows int, tiers int) impl.Hull {
		return impl.Hull{Bays: bays, Rows: rows, Tiers: tiers}
	}
	five := weighing(30, 5, 5, 30, 4)
	ten := manyBoxes()
	return []knownOrder{
		// No boxes on the ship, also where there are some on the quay.
		{loading{oneSlot, nil, []int{0}}, nil, nil, nil},
		{loading{ship(2, 2, 1), five, []int{0, 0, 0, 0}}, nil, nil, nil},
		{loading{mostSlots, ten, make([]int, 36)}, nil, nil, nil},
		// One box.
		{loading{oneSlot, five, []int{1}}, []int{0}, []int{0}, []int{0}},
		{loading{ship(1, 2, 1), five, []int{0, 2}}, []int{1}, []int{5}, []int{1}},
		{loading{ship(1, 2, 1), five, []int{2, 0}}, []int{0}, []int{-5}, []int{0}},
		{loading{ship(1, 3, 1), five, []int{0, 4, 0}}, []int{1}, []int{0}, []int{1}},
		{loading{ship(1, 3, 1), five, []int{0, 0, 4}}, []int{2}, []int{60}, []int{2}},
		// One row, on which nothing heels.
		{loading{ship(1, 1, 3), five, []int{4, 1, 2}}, []int{0, 1, 2}, []int{0, 0, 0}, []int{0, 1, 2}},
		{loading{ship(2, 1, 2), five, []int{4, 1, 2, 3}}, []int{0, 1, 2, 3}, []int{0, 0, 0, 0}, []int{0, 2, 1, 3}},
		{loading{ship(4, 1, 1), five, []int{4, 0, 2, 3}}, []int{0, 2, 3}, []int{0, 0, 0}, []int{0, 2, 3}},
		{loading{ship(4, 1, 2), five, []int{0, 0, 4, 1, 2, 0, 3, 5}}, []int{2, 3, 4, 6, 7}, []int{0, 0, 0, 0, 0}, []int{2, 4, 6, 3, 7}},
		// Two rows: the lighter box first, and then the other side.
		{loading{ship(1, 2, 1), weighing(7, 5), []int{1, 2}}, []int{1, 0}, []int{5, -2}, []int{0, 1}},
		{loading{ship(1, 2, 1), weighing(7, 5), []int{2, 1}}, []int{0, 1}, []int{-5, 2}, []int{0, 1}},
		{loading{ship(1, 2, 1), weighing(7, 7), []int{2, 1}}, []int{0, 1}, []int{-7, 0}, []int{0, 1}},
		{loading{ship(1, 2, 2), weighing(5, 6, 7, 4), []int{1, 2, 3, 4}}, []int{0, 2, 1, 3}, []int{-5, 2, -4, 0}, []int{0, 2, 1, 3}},
		// The heavy box at the bottom has to come first, or 30 from the other side; behind it, 5 is within 30 whatever comes then.
		{loading{ship(1, 2, 3), five, []int{1, 2, 3, 4, 5, 0}}, []int{0, 3, 1, 2, 4}, []int{-30, 0, -5, -10, -6}, []int{0, 3, 1, 4, 2}},
		// All at port side: no order is better than another one.
		{loading{ship(4, 2, 1), five, []int{1, 0, 2, 0, 3, 0, 4, 0}}, []int{0, 2, 4, 6}, []int{-30, -35, -40, -70}, []int{0, 2, 4, 6}},
		// The plan heels by 18, and 0, 1, 2 before 3 would be 19: the difference is behind the first two.
		{loading{ship(2, 2, 1), weighing(10, 10, 1, 1), []int{1, 3, 2, 4}}, []int{0, 1, 3, 2}, []int{-10, -9, -8, -18}, []int{0, 1, 2, 3}},
		// The mirror image: the lighter ones have the lesser slots now.
		{loading{ship(2, 2, 1), weighing(10, 10, 1, 1), []int{3, 1, 4, 2}}, []int{0, 1, 2, 3}, []int{-1, 9, 8, 18}, []int{0, 1, 2, 3}},
		// Three rows: the middle one does not count, and comes as early as its number allows.
		{loading{ship(1, 3, 1), weighing(5, 6, 7), []int{1, 2, 3}}, []int{0, 1, 2}, []int{-10, -10, 4}, []int{0, 1, 2}},
		{loading{ship(1, 3, 1), weighing(5, 6, 7), []int{3, 2, 1}}, []int{1, 2, 0}, []int{0, 10, -4}, []int{0, 1, 2}},
		{loading{ship(1, 3, 2), weighing(5, 6, 7), []int{1, 2, 0, 0, 3, 0}}, []int{0, 4, 1}, []int{-10, 4, -8}, []int{0, 4, 1}},
		// Of many equal boxes the lesser slots first, as long as the heel is not more than that of one box.
		{loading{ship(1, 2, 3), weighing(9, 9, 9, 9, 9, 9), []int{1, 2, 3, 4, 5, 6}}, []int{0, 3, 1, 4, 2, 5}, []int{-9, 0, -9, 0, -9, 0}, []int{0, 3, 1, 4, 2, 5}},
		{loading{ship(2, 2, 1), weighing(9, 9, 9, 9), []int{1, 2, 3, 4}}, []int{0, 1, 2, 3}, []int{-9, 0, -9, 0}, []int{0, 1, 2, 3}},
		{loading{ship(2, 2, 1), weighing(9, 9, 9), []int{1, 0, 2, 3}}, []int{0, 3, 2}, []int{-9, 0, -9}, []int{0, 2, 3}},
		// MaxLoads boxes, in rows of every height.
		{loading{ship(1, 3, 3), weighing(9, 9, 9, 9, 9, 9, 9, 9), []int{1, 2, 3, 4, 0, 0, 5, 6, 7}}, []int{0, 3, 6, 1, 7, 2, 8}, []int{-18, -18, 0, -18, 0, -18, 0}, []int{0, 3, 6, 1, 7, 2, 8}},
		{loading{ship(4, 1, 2), ten, []int{4, 500, 0, 0, 40, 999, 1, 2}}, []int{0, 1, 4, 5, 6, 7}, []int{0, 0, 0, 0, 0, 0}, []int{0, 4, 6, 1, 5, 7}},
		{loading{ship(4, 1, 2), ten, []int{4, 500, 17, 0, 40, 999, 1, 2}}, []int{0, 1, 2, 4, 5, 6, 7}, []int{0, 0, 0, 0, 0, 0, 0}, []int{0, 2, 4, 6, 1, 5, 7}},
	}
}

func TestConstantOfOrders(t *testing.T) {
	if impl.MaxLoads != 7 {
		t.Errorf("MaxLoads is %d", impl.MaxLoads)
	}
}

func TestLoadOkOfKnownOrders(t *testing.T) {
	four := loading{impl.Hull{Bays: 1, Rows: 2, Tiers: 2}, numberedBoxes(5), []int{1, 2, 3, 4}}
	three := four.with([]int{1, 2, 3, 0})
	tower := loading{impl.Hull{Bays: 1, Rows: 1, Tiers: 3}, numberedBoxes(5), []int{5, 1, 3}}
	line := loading{impl.Hull{Bays: 4, Rows: 1, Tiers: 1}, numberedBoxes(5), []int{2, 0, 4, 1}}
	none := four.with([]int{0, 0, 0, 0})
	one := loading{oneSlot, numberedBoxes(5), []int{2}}
	for _, k := range []struct {
		loading
		order []int
		want  bool
	}{
		{four, []int{0, 1, 2, 3}, true},
		{four, []int{0, 2, 3, 1}, true},
		{four, []int{0, 2, 1, 3}, true},
		{four, []int{2, 3, 0, 1}, true},
		{four, []int{2, 0, 1, 3}, true},
		{three, []int{0, 1, 2}, true},
		{three, []int{0, 2, 1}, true},
		{three, []int{2, 0, 1}, true},
		{tower, []int{0, 1, 2}, true},
		// The slots before are not below: they are in other bays.
		{line, []int{0, 2, 3}, true},
		{line, []int{3, 2, 0}, true},
		{line, []int{2, 0, 3}, true},
		{none, nil, true},
		{none, []int{}, true},
		{one, []int{0}, true},
		{one.with([]int{0}), nil, true},
		// Before the slot below.
		{four, []int{1, 0, 2, 3}, false},
		{four, []int{0, 3, 2, 1}, false},
		{four, []int{0, 1, 3, 2}, false},
		{four, []int{2, 1, 0, 3}, false},
		{three, []int{1, 0, 2}, false},
		{tower, []int{0, 2, 1}, false},
		{tower, []int{1, 0, 2}, false},
		{tower, []int{2, 1, 0}, false},
		{tower, []int{1, 2, 0}, false},
		// Too few, and none.
		{four, []int{0, 1, 2}, false},
		{four, []int{0, 2}, false},
		{four, nil, false},
		{four, []int{}, false},
		{three, []int{0, 1}, false},
		{one, nil, false},
		// Too many: twice, empty, or not there.
		{four, []int{0, 1, 2, 3, 3}, false},
		{four, []int{0, 0, 1, 2, 3}, false},
		{three, []int{0, 1, 2, 3}, false},
		{three, []int{0, 1, 2, 4}, false},
		{none, []int{0}, false},
		{none, []int{-1}, false},
		{one, []int{0, 0}, false},
		{one, []int{0, 1}, false},
		{one.with([]int{0}), []int{0}, false},
		// Twice, in place of another one.
		{four, []int{0, 1, 2, 2}, false},
		{four, []int{0, 0, 2, 3}, false},
		{three, []int{0, 1, 0}, false},
		{three, []int{2, 0, 2}, false},
		// Empty.
		{three, []int{0, 1, 3}, false},
		{three, []int{0, 2, 3}, false},
		{line, []int{0, 1, 3}, false},
		// Not there.
		{three, []int{0, 1, -1}, false},
		{three, []int{-1, 0, 1}, false},
		{four, []int{0, 1, 2, 4}, false},
		{four, []int{4, 0, 1, 2}, false},
		{four, []int{0, 1, 2, math.MinInt}, false},
		{four, []int{0, 1, 2, 3 + 1<<32}, false},
		{one, []int{-1}, false},
		{one, []int{1}, false},
		// The ids in place of the slots.
		{tower, []int{5, 1, 3}, false},
		// Other arguments.
		{four.with([]int{1, 2, 3}), []int{0, 1, 2}, false},
		{four.with([]int{0, 2, 0, 0}), []int{1}, false},
		{four.with([]int{1, 1, 0, 0}), []int{0, 1}, false},
		{four.with([]int{6, 0, 0, 0}), []int{0}, false},
		{four.with([]int{-1, 0, 0, 0}), []int{0}, false},
		{four.with(nil), nil, false},
		{four.withBoxes(numberedBoxes(11)), []int{0, 1, 2, 3}, false},
		{four.withBoxes(append(numberedBoxes(4), impl.Box{Id: 4, Weight: 5})), []int{0, 1, 2, 3}, false},
		{four.withBoxes(nil), []int{0, 1, 2, 3}, false},
		{none.withBoxes(numberedBoxes(11)), nil, false},
		{loading{impl.Hull{}, numberedBoxes(1), nil}, nil, false},
		{loading{impl.Hull{}, numberedBoxes(1), []int{1}}, []int{0}, false},
		{loading{impl.Hull{Bays: 5, Rows: 1, Tiers: 1}, numberedBoxes(1), []int{1, 0, 0, 0, 0}}, []int{0}, false},
	} {
		if got := k.loadOk(k.order); got != k.want {
			t.Errorf("LoadOk of %+v, %v is %v", k.loading, k.order, got)
		}
	}
}

// Every list of at most as many numbers as there are slots and one, from -1 to one too many, for all valid plans of small ships.
func TestLoadOkOfAllSmallOrders(t *testing.T) {
	for _, l := range allSmallPlans() {
		many := len(placesOf(l.ship))
		if !planIsValid(l) || many > 3 && l.plan[0] > 1 {
			continue
		}
		orders := [][]int{nil}
		for from := 0; from < len(orders); from++ {
			if got := l.loadOk(orders[from]); got != loadIsOk(l, orders[from]) {
				t.Fatalf("LoadOk of %+v, %v is %v", l, orders[from], got)
			}
			if len(orders[from]) > many || len(orders[from]) == 4 {
				continue
			}
			for slot := -1; slot <= many; slot++ {
				orders = append(orders, append(slices.Clone(orders[from]), slot))
			}
		}
	}
}

// loadedBy puts all boxes of a plan in an order onto the empty ship, and reports whether that leads to the plan.
func loadedBy(l loading, order []int) bool {
	part := l.with(impl.PlanEmpty(l.ship))
	for _, slot := range order {
		if slot < 0 || slot >= len(l.plan) {
			return false
		}
		after, ok := part.put(slot, l.plan[slot])
		if !ok {
			return false
		}
		part = part.with(after)
	}
	return slices.Equal(part.plan, l.plan)
}

// unloadedBy takes all boxes of a plan in the other direction of an order, and reports whether the ship is empty then.
func unloadedBy(l loading, order []int) bool {
	part := l
	for i := len(order) - 1; i >= 0; i-- {
		after, id := part.take(order[i])
		if id != l.plan[order[i]] {
			return false
		}
		part = part.with(after)
	}
	return slices.Equal(part.plan, impl.PlanEmpty(l.ship))
}

func TestP5OrdersThatAreAllowedLoadThePlan(t *testing.T) {
	next := numbersFrom(5)
	for _, l := range orderedLoadings() {
		for range 3 {
			order := allowedOrder(l, next)
			if !l.loadOk(order) {
				t.Fatalf("LoadOk of %+v, %v does not hold", l, order)
			}
			if !loadedBy(l, order) || !unloadedBy(l, order) {
				t.Fatalf("the order %v, that is allowed, does not load %+v", order, l)
			}
		}
	}
}

// Of all orders of few boxes exactly those are allowed that load the plan.
func TestP5OfAllOrders(t *testing.T) {
	for _, l := range grownLoadings(4) {
		many := 0
		for _, order := range ordersOf(fullSlots(l)) {
			ok := l.loadOk(order)
			if ok != loadedBy(l, order) || ok != loadIsOk(l, order) {
				t.Fatalf("LoadOk of %+v, %v is %v", l, order, ok)
			}
			if !ok {
				continue
			}
			many++
			if !unloadedBy(l, order) {
				t.Fatalf("%+v cannot be taken in the other direction of %v", l, order)
			}
		}
		if want := searchOrders(l).many; many != want {
			t.Fatalf("%d orders of %+v are allowed, not %d", many, l, want)
		}
	}
}

// wrongOrders has orders of a valid plan that are not allowed for one reason each.
func wrongOrders(l loading, order []int) [][]int {
	var list [][]int
	with := func(i int, slot int) []int {
		other := slices.Clone(order)
		other[i] = slot
		return other
	}
	empty := nextOf(l)
	for i := range order {
		list = append(list, slices.Delete(slices.Clone(order), i, i+1), slices.Insert(slices.Clone(order), i, order[i]))
		for _, slot := range slices.Concat(empty, noSlots(len(l.plan))) {
			list = append(list, with(i, slot))
		}
		for j := range i {
			list = append(list, with(i, order[j]), with(j, order[i]))
			if order[i]/l.ship.Tiers == order[j]/l.ship.Tiers {
				exchanged := with(i, order[j])
				exchanged[j] = order[i]
				list = append(list, exchanged)
			}
		}
	}
	for _, slot := range slices.Concat(empty, noSlots(len(l.plan))) {
		list = append(list, append(slices.Clone(order), slot), slices.Insert(slices.Clone(order), 0, slot))
	}
	if len(order) > 0 {
		list = append(list, nil, slices.Concat(order, order))
	}
	return list
}

func TestOrdersThatAreNotAllowed(t *testing.T) {
	next := numbersFrom(7)
	for _, l := range append(fewLoadings(), grownLoadings(3)...) {
		for _, order := range wrongOrders(l, allowedOrder(l, next)) {
			if l.loadOk(order) {
				t.Fatalf("LoadOk of %+v, %v holds", l, order)
			}
			if got := l.worstHeel(order); got != -1 {
				t.Fatalf("WorstHeel of %+v, %v is %d, not -1", l, order, got)
			}
		}
	}
}

// otherLoadings has arguments for which there are no orders.
func otherLoadings() []loading {
	return append(otherWeights(), invalidLoadings()...)
}

func TestOrdersOfOtherPlans(t *testing.T) {
	for _, l := range otherLoadings() {
		slots := fullSlots(l)
		down := slices.Clone(slots)
		slices.Reverse(down)
		for _, order := range [][]int{nil, {}, slots, down, {0}, {-1}} {
			if l.loadOk(order) {
				t.Fatalf("LoadOk of %+v, %v holds", l, order)
			}
			if got := l.worstHeel(order); got != -1 {
				t.Fatalf("WorstHeel of %+v, %v is %d, not -1", l, order, got)
			}
		}
		if got := l.loadOrder(); len(got) != 0 {
			t.Fatalf("LoadOrder of %+v is %v", l, got)
		}
		if got, ok := l.bestOrder(); len(got) != 0 || ok {
			t.Fatalf("BestOrder of %+v is %v, %v", l, got, ok)
		}
	}
}

func TestLoadOrderOfKnownPlans(t *testing.T) {
	for _, k := range knownOrders() {
		if got := k.loadOrder(); !slices.Equal(got, k.tiers) {
			t.Errorf("LoadOrder of %+v is %v, not %v", k.loading, got, k.tiers)
		}
	}
	// MaxBoxes boxes, more than MaxLoads, in rows of every height.
	ten := loading{impl.Hull{Bays: 2, Rows: 3, Tiers: 3}, numberedBoxes(10), []int{1, 2, 3, 0, 0, 0, 4, 0, 0, 5, 6, 0, 7, 8, 9, 10, 0, 0}}
	if got := ten.loadOrder(); !slices.Equal(got, []int{0, 6, 9, 12, 15, 1, 10, 13, 2, 14}) {
		t.Errorf("LoadOrder of %+v is %v", ten, got)
	}
}

func TestP79TierByTierIsAllowed(t *testing.T) {
	for _, l := range orderedLoadings() {
		order := l.loadOrder()
		if !l.loadOk(order) || !loadIsOk(l, order) {
			t.Fatalf("LoadOk of %+v, %v does not hold", l, order)
		}
		for i := range order[min(1, len(order)):] {
			before, behind := order[i], order[i+1]
			tier, next := before%l.ship.Tiers, behind%l.ship.Tiers
			if next < tier || next == tier && behind <= before {
				t.Fatalf("LoadOrder of %+v is %v: %d comes before %d", l, order, before, behind)
			}
		}
	}
}

func TestWorstHeelOfKnownOrders(t *testing.T) {
	for _, k := range knownOrders() {
		if got := k.worstHeel(k.best); got != worstOf(k.heels) {
			t.Errorf("WorstHeel of %+v, %v is %d, not %d", k.loading, k.best, got, worstOf(k.heels))
		}
	}
	two := loading{impl.Hull{Bays: 1, Rows: 2, Tiers: 2}, weighing(5, 6, 7, 4), []int{1, 2, 3, 4}}
	three := loading{impl.Hull{Bays: 1, Rows: 3, Tiers: 1}, weighing(5, 6, 7), []int{1, 2, 3}}
	ten := loading{impl.Hull{Bays: 2, Rows: 3, Tiers: 3}, heaviestBoxes(), []int{1, 2, 3, 0, 0, 0, 4, 0, 0, 5, 6, 0, 7, 8, 9, 10, 0, 0}}
	for _, k := range []struct {
		loading
		order []int
		want  int
	}{
		// In the middle, to port side: -5, -11, -4, 0.
		{two, []int{0, 1, 2, 3}, 11},
		// In the middle, to starboard: 7, 11, 6, 0.
		{two, []int{2, 3, 0, 1}, 11},
		// On both sides: 7, 2, 6, 0, and -5, 2, 6, 0.
		{two, []int{2, 0, 3, 1}, 7},
		{two, []int{0, 2, 3, 1}, 6},
		{two, []int{0, 2, 1, 3}, 5},
		// At the end, to port side and to starboard: -5, -11, and 7, 11.
		{two.with([]int{1, 2, 0, 0}), []int{0, 1}, 11},
		{two.with([]int{0, 0, 3, 4}), []int{2, 3}, 11},
		// At the first slot: -10, -10, 4 and 14, 14, 4.
		{three, []int{0, 1, 2}, 10},
		{three, []int{0, 2, 1}, 10},
		{three, []int{2, 1, 0}, 14},
		{three, []int{1, 2, 0}, 14},
		{three, []int{1, 0, 2}, 10},
		// Never: only the middle row is loaded.
		{three.with([]int{0, 3, 0}), []int{1}, 0},
		// More than MaxLoads boxes: five at port side, and four at starboard only behind them.
		{ten.with([]int{1, 2, 3, 0, 0, 0, 4, 5, 0, 6, 7, 0, 8, 0, 0, 9, 10, 0}), []int{0, 1, 2, 9, 10, 12, 6, 7, 15, 16}, 300},
		{ten, []int{0, 1, 2, 9, 10, 6, 12, 13, 14, 15}, 300},
		{ten, []int{6, 15, 0, 1, 2, 9, 10, 12, 13, 14}, 180},
		// Nothing is loaded.
		{two.with([]int{0, 0, 0, 0}), nil, 0},
		{loading{oneSlot, nil, []int{0}}, []int{}, 0},
		// Other arguments.
		{two, nil, -1},
		{two, []int{0, 1, 2}, -1},
		{two, []int{0, 1, 2, 3, 3}, -1},
		{two, []int{0, 1, 2, 2}, -1},
		{two, []int{0, 1, 3, 2}, -1},
		{two, []int{0, 1, 2, 4}, -1},
		{two, []int{0, 1, 2, -1}, -1},
		{two.with([]int{1, 2, 3, 0}), []int{0, 1, 3}, -1},
		{two.with([]int{0, 0, 0, 0}), []int{0}, -1},
		{two.with([]int{1, 1, 0, 0}), []int{0, 1}, -1},
		{two.with([]int{1, 2, 3}), []int{0, 1, 2}, -1},
		{two.withBoxes(weighing(5, 6, 7)), []int{0, 1, 2, 3}, -1},
		{two.withBoxes(weighing(5, 6, 7, 31)), []int{0, 1, 2, 3}, -1},
		{loading{impl.Hull{}, nil, nil}, nil, -1},
	} {
		if got := k.worstHeel(k.order); got != k.want {
			t.Errorf("WorstHeel of %+v, %v is %d, not %d", k.loading, k.order, got, k.want)
		}
	}
}

func TestP6WhatIsLoadedFirstNeverHeelsMore(t *testing.T) {
	next := numbersFrom(6)
	for _, l := range orderedLoadings() {
		heel, _ := l.heel()
		best, hasBest := l.bestOrder()
		for range 2 {
			order := allowedOrder(l, next)
			worst := l.worstHeel(order)
			if want := worstOf(heelsOf(l, order)); worst != want {
				t.Fatalf("WorstHeel of %+v, %v is %d, not %d", l, order, worst, want)
			}
			if worst < size(heel) {
				t.Fatalf("WorstHeel of %+v, %v is %d, but the plan heels by %d", l, order, worst, heel)
			}
			part := l.with(impl.PlanEmpty(l.ship))
			for many := range len(order) + 1 {
				if now, ok := part.heel(); !ok || size(now) > worst {
					t.Fatalf("WorstHeel of %+v, %v is %d, but behind %d it heels by %d", l, order, worst, many, now)
				}
				if many < len(order) {
					part = part.withSlot(order[many], l.plan[order[many]])
				}
			}
			if least := l.worstHeel(best); hasBest && (least == -1 || worst < least) {
				t.Fatalf("WorstHeel of %+v, %v is %d, and that of BestOrder, %v, is %d", l, order, worst, best, least)
			}
		}
	}
}

func TestWorstHeelOfTheMirrorImage(t *testing.T) {
	next := numbersFrom(8)
	for _, l := range orderedLoadings() {
		order := allowedOrder(l, next)
		places := placesOf(l.ship)
		var other []int
		for _, slot := range order {
			p := places[slot]
			other = append(other, slices.Index(places, shipPlace{p.bay, l.ship.Rows - 1 - p.row, p.tier}))
		}
		if got, want := l.mirrored().worstHeel(other), l.worstHeel(order); got != want {
			t.Fatalf("WorstHeel of %+v, %v is %d, and that of the mirror image is %d", l, order, want, got)
		}
	}
}

// checkBest asks twice, as checkPlanPut does.
func checkBest(t *testing.T, l loading, want []int, wantOk bool) {
	t.Helper()
	for range 2 {
		if got, ok := l.bestOrder(); !slices.Equal(got, want) || ok != wantOk {
			t.Fatalf("BestOrder of %+v is %v, %v, not %v, %v", l, got, ok, want, wantOk)
		}
	}
}

func TestBestOrderOfKnownPlans(t *testing.T) {
	for _, k := range knownOrders() {
		if heels := heelsOf(k.loading, k.best)[1:]; !slices.Equal(heels, k.heels) {
			t.Errorf("the heels of %+v, %v are %v, not %v", k.loading, k.best, heels, k.heels)
		}
		checkBest(t, k.loading, k.best, true)
	}
	// MaxLoads boxes of a plan, and one more; boxes that are not in the plan do not count.
	ship := impl.Hull{Bays: 4, Rows: 1, Tiers: 3}
	seven := loading{ship, numberedBoxes(10), []int{1, 2, 3, 4, 5, 6, 7, 0, 0, 0, 0, 0}}
	checkBest(t, seven, []int{0, 1, 2, 3, 4, 5, 6}, true)
	checkBest(t, seven.withBoxes(numberedBoxes(7)), []int{0, 1, 2, 3, 4, 5, 6}, true)
	checkBest(t, seven.withSlot(7, 8), nil, false)
	checkBest(t, seven.withSlot(9, 8), nil, false)
	checkBest(t, seven.withSlot(7, 8).withBoxes(numberedBoxes(8)), nil, false)
	checkBest(t, seven.with([]int{1, 2, 3, 4, 5, 6, 7, 8, 9, 10, 0, 0}), nil, false)
	// Other arguments.
	checkBest(t, seven.withSlot(8, 8), nil, false)
	checkBest(t, seven.withSlot(6, 6), nil, false)
	checkBest(t, seven.withSlot(6, 11), nil, false)
	checkBest(t, seven.withSlot(6, -1), nil, false)
	checkBest(t, seven.withSlot(5, 0).withSlot(6, 0).withSlot(4, 0).withSlot(5, 1), nil, false)
	checkBest(t, seven.with(nil), nil, false)
	checkBest(t, seven.withBoxes(numberedBoxes(11)), nil, false)
	checkBest(t, seven.withBoxes(append(numberedBoxes(7), impl.Box{Id: 7, Weight: 5})), nil, false)
	checkBest(t, loading{impl.Hull{}, numberedBoxes(2), nil}, nil, false)
	checkBest(t, loading{impl.Hull{}, nil, nil}, nil, false)
}

// Every plan of at most MaxLoads boxes is held against a search through all orders; for plans with more there is no best order.
func TestBestOrderOfValidPlans(t *testing.T) {
	many := 0
	for _, l := range orderedLoadings() {
		if len(fullSlots(l)) > 7 {
			checkBest(t, l, nil, false)
			continue
		}
		many++
		s := searchOrders(l)
		checkBest(t, l, s.best, true)
		if got := l.worstHeel(s.best); got != s.worst {
			t.Fatalf("WorstHeel of %+v, %v is %d, not %d", l, s.best, got, s.worst)
		}
	}
	if many < 500 {
		t.Fatalf("only %d plans have few boxes enough", many)
	}
}

// firstDifference reports whether an order has the lesser slot where it first differs from another one of the same length.
func firstDifference(order []int, other []int) bool {
	for i := range order {
		if order[i] != other[i] {
			return order[i] < other[i]
		}
	}
	return false
}

func TestP6NoOrderIsBetterThanTheBestOne(t *testing.T) {
	for _, l := range grownLoadings(5) {
		best, ok := l.bestOrder()
		least := l.worstHeel(best)
		if heel, _ := l.heel(); !ok || least < size(heel) {
			t.Fatalf("BestOrder of %+v is %v, %v, with the worst heel %d, and the plan heels by %d", l, best, ok, least, heel)
		}
		for _, order := range ordersOf(fullSlots(l)) {
			if !l.loadOk(order) {
				continue
			}
			worst := l.worstHeel(order)
			if worst < least || worst == least && firstDifference(order, best) {
				t.Fatalf("BestOrder of %+v is %v, with the worst heel %d, but that of %v is %d", l, best, least, order, worst)
			}
		}
	}
}

func TestP80TheBestOrderIsAllowed(t *testing.T) {
	for _, l := range orderedLoadings() {
		best, ok := l.bestOrder()
		if ok != (len(fullSlots(l)) <= impl.MaxLoads) {
			t.Fatalf("BestOrder of %+v is %v, %v", l, best, ok)
		}
		if !ok {
			continue
		}
		if !l.loadOk(best) || !loadIsOk(l, best) {
			t.Fatalf("LoadOk of %+v, %v does not hold", l, best)
		}
		if least, tiers := l.worstHeel(best), l.worstHeel(l.loadOrder()); least > tiers {
			t.Fatalf("WorstHeel of %+v is %d in the best order, and %d tier by tier", l, least, tiers)
		}
	}
}

// On a ship of one row nothing heels, and the slots come as they are counted.
func TestBestOrderOnOneRow(t *testing.T) {
	for _, l := range orderedLoadings() {
		if l.ship.Rows != 1 {
			continue
		}
		if worst := l.worstHeel(l.loadOrder()); worst != 0 {
			t.Fatalf("WorstHeel of %+v is %d", l, worst)
		}
		if slots := fullSlots(l); len(slots) <= 7 {
			checkBest(t, l, slots, true)
		}
	}
}

// orderAnswers has all that is told of the orders of a plan.
type orderAnswers struct {
	ok    bool
	worst int
	lists [2][]int
	has   bool
}

func orderAnswersOf(l loading, order []int) orderAnswers {
	best, has := l.bestOrder()
	return orderAnswers{l.loadOk(order), l.worstHeel(order), [2][]int{l.loadOrder(), best}, has}
}

func sameOrderAnswers(a orderAnswers, b orderAnswers) bool {
	return a.ok == b.ok && a.worst == b.worst && a.has == b.has && slices.Equal(a.lists[0], b.lists[0]) && slices.Equal(a.lists[1], b.lists[1])
}

// orderWithRoom has the slots of a plan that are not empty, and room behind them; the second list is the first one with what is there.
func orderWithRoom(l loading) ([]int, []int) {
	slots := fullSlots(l)
	whole := append(slices.Clone(slots), -7, -8, -9)
	return whole[:len(slots)], whole
}

// What is behind the end of the plan, of the boxes and of the order is read, too; and the answers are overwritten, so that memory shared with an argument shows.
func TestOrdersAreNotChanged(t *testing.T) {
	for _, l := range slices.Concat(fewLoadings(), grownLoadings(3), otherLoadings()) {
		own, wholePlan, wholeBoxes := withRoom(l)
		order, wholeOrder := orderWithRoom(l)
		ship := own.ship
		answers := orderAnswersOf(own, order)
		for _, list := range answers.lists {
			overwrite(list)
		}
		if own.ship != ship || !slices.Equal(wholePlan, append(slices.Clone(l.plan), -7, -8, -9)) || !slices.Equal(wholeBoxes, append(slices.Clone(l.boxes), manyBoxes()...)) {
			t.Fatalf("%+v was changed to %+v, %v, %+v", l, own.ship, wholePlan, wholeBoxes)
		}
		if !slices.Equal(wholeOrder, append(fullSlots(l), -7, -8, -9)) {
			t.Fatalf("the order of %+v was changed to %v", l, wholeOrder)
		}
	}
}

// The answers of a first round are overwritten while those of a second one are read, and others are asked for in between.
func TestOrdersKeepNothingFromCallToCall(t *testing.T) {
	list := slices.Concat(fewLoadings(), grownLoadings(4), otherWeights())
	var first, second []orderAnswers
	for _, l := range list {
		first = append(first, orderAnswersOf(l, fullSlots(l)))
	}
	for _, l := range list {
		second = append(second, orderAnswersOf(l, fullSlots(l)))
	}
	for i := len(list) - 1; i >= 0; i-- {
		if !sameOrderAnswers(second[i], first[i]) {
			t.Fatalf("the answers for %+v are %+v, and were %+v", list[i], second[i], first[i])
		}
		overwrite(first[i].lists[0])
		overwrite(first[i].lists[1])
		if again := orderAnswersOf(list[i], fullSlots(list[i])); !sameOrderAnswers(again, second[i]) {
			t.Fatalf("the answers for %+v are %+v after the first ones were overwritten, not %+v", list[i], again, second[i])
		}
	}
}
