package tests

import (
	"slices"
	"testing"

	"loop.example/containerport/impl"
)

// idsOfNoBox are ids that none of manyBoxes has.
var idsOfNoBox = []int{3, 18, 501, 997}

// loading is a ship, the boxes that there are, and a plan.
type loading struct {
	ship  impl.Hull
	boxes []impl.Box
	plan  []int
}

func (l loading) valid() bool {
	return impl.PlanValid(l.ship, l.boxes, l.plan)
}

func (l loading) find(id int) int {
	return impl.PlanFind(l.ship, l.boxes, l.plan, id)
}

func (l loading) put(slot int, id int) ([]int, bool) {
	return impl.PlanPut(l.ship, l.boxes, l.plan, slot, id)
}

func (l loading) take(slot int) ([]int, int) {
	return impl.PlanTake(l.ship, l.boxes, l.plan, slot)
}

func (l loading) ids() []int {
	return impl.PlanIds(l.ship, l.boxes, l.plan)
}

func (l loading) next() []int {
	return impl.PlanNext(l.ship, l.boxes, l.plan)
}

// with has the same ship and the same boxes, but another plan.
func (l loading) with(plan []int) loading {
	return loading{l.ship, l.boxes, plan}
}

// withSlot has another id in a slot.
func (l loading) withSlot(slot int, id int) loading {
	plan := slices.Clone(l.plan)
	plan[slot] = id
	return l.with(plan)
}

// withBoxes has the same plan, but other boxes.
func (l loading) withBoxes(boxes []impl.Box) loading {
	return loading{l.ship, boxes, l.plan}
}

// above returns the id above a slot, 0 if that is empty, and false if the slot is the highest one of its row.
func (l loading) above(slot int) (int, bool) {
	if slot%l.ship.Tiers == l.ship.Tiers-1 {
		return 0, false
	}
	return l.plan[slot+1], true
}

// notLoaded has the ids of the boxes that are not in the plan.
func (l loading) notLoaded() []int {
	var list []int
	for _, b := range l.boxes {
		if !slices.Contains(l.plan, b.Id) {
			list = append(list, b.Id)
		}
	}
	return list
}

// rowsOf has the slots of each row of each bay, the lowest one first.
func rowsOf(h impl.Hull) [][]int {
	rows := make([][]int, h.Bays*h.Rows)
	for slot, p := range placesOf(h) {
		at := p.bay*h.Rows + p.row
		rows[at] = append(rows[at], slot)
	}
	return rows
}

// planIsValid goes by the document, row by row, for a ship and boxes that are valid.
func planIsValid(l loading) bool {
	if len(l.plan) != len(placesOf(l.ship)) {
		return false
	}
	seen := map[int]bool{}
	for _, row := range rowsOf(l.ship) {
		floats := false
		for _, slot := range row {
			id := l.plan[slot]
			if id == 0 {
				floats = true
				continue
			}
			known := slices.ContainsFunc(l.boxes, func(b impl.Box) bool { return b.Id == id })
			if floats || seen[id] || !known {
				return false
			}
			seen[id] = true
		}
	}
	return true
}

// nextOf has for each row of a valid plan its lowest empty slot, if there is one.
func nextOf(l loading) []int {
	var list []int
	for _, row := range rowsOf(l.ship) {
		for _, slot := range row {
			if l.plan[slot] == 0 {
				list = append(list, slot)
				break
			}
		}
	}
	return list
}

// idsOf has the ids of boxes.
func idsOf(boxes []impl.Box) []int {
	var list []int
	for _, b := range boxes {
		list = append(list, b.Id)
	}
	return list
}

// planOf fills rows up to heights with ids, as long as there are any.
func planOf(h impl.Hull, heights []int, ids []int) []int {
	plan := make([]int, h.Bays*h.Rows*h.Tiers)
	for at, row := range rowsOf(h) {
		for _, slot := range row[:heights[at]] {
			if len(ids) > 0 {
				plan[slot], ids = ids[0], ids[1:]
			}
		}
	}
	return plan
}

// heightsFor has heights of the rows of a ship: all 0, all full, only the first one or the last one full, one box in each, and some without a rule that shows.
func heightsFor(h impl.Hull, next func(int) int) [][]int {
	rows := h.Bays * h.Rows
	all := func(high int) []int { return slices.Repeat([]int{high}, rows) }
	first, last := all(0), all(0)
	first[0], last[rows-1] = h.Tiers, h.Tiers
	list := [][]int{all(0), all(h.Tiers), first, last, all(1)}
	for range 6 {
		heights := all(0)
		for at := range heights {
			heights[at] = next(h.Tiers + 1)
		}
		list = append(list, heights)
	}
	return list
}

// loadingsOf has plans of a ship: with all of MaxBoxes boxes to choose from, and with no box but those in the plan.
func loadingsOf(h impl.Hull, next func(int) int) []loading {
	list := []loading{{h, nil, make([]int, len(placesOf(h)))}}
	boxes := manyBoxes()
	for _, heights := range heightsFor(h, next) {
		plan := planOf(h, heights, shuffled(idsOf(boxes), next))
		var loaded []impl.Box
		for _, b := range boxes {
			if slices.Contains(plan, b.Id) {
				loaded = append(loaded, b)
			}
		}
		list = append(list, loading{h, boxes, plan}, loading{h, loaded, plan})
	}
	return list
}

// validLoadings has plans of all ships, from those without boxes to full ones, and those with MaxBoxes boxes.
func validLoadings() []loading {
	var list []loading
	for i, h := range validShips() {
		list = append(list, loadingsOf(h, numbersFrom(uint32(i)))...)
	}
	return list
}

// fewLoadings has every kind of validLoadings, but of few ships.
func fewLoadings() []loading {
	var list []loading
	for i, h := range []impl.Hull{oneSlot, {Bays: 1, Rows: 1, Tiers: 3}, {Bays: 2, Rows: 1, Tiers: 2}, {Bays: 4, Rows: 3, Tiers: 1}, {Bays: 1, Rows: 3, Tiers: 3}, {Bays: 2, Rows: 2, Tiers: 3}, mostSlots} {
		list = append(list, loadingsOf(h, numbersFrom(uint32(100+i)))...)
	}
	return list
}

// allSmallPlans has all plans of ships of at most four slots with each of the ids 0, 1, 2, 3, of no box, and below 0, in each slot; boxes 1 to 3 are there.
func allSmallPlans() []loading {
	var list []loading
	for _, h := range validShips() {
		many := len(placesOf(h))
		if many > 4 {
			continue
		}
		plans := [][]int{nil}
		for range many {
			var longer [][]int
			for _, plan := range plans {
				for _, id := range []int{0, 1, 2, 3, 4, -1} {
					longer = append(longer, append(slices.Clone(plan), id))
				}
			}
			plans = longer
		}
		for _, plan := range plans {
			list = append(list, loading{h, numberedBoxes(3), plan})
		}
	}
	return list
}

// onWrongShips has ships that are not valid, with plans as long as the product of their numbers, and with short ones.
func onWrongShips() []loading {
	var list []loading
	for _, h := range invalidShips() {
		list = append(list, loading{h, nil, nil}, loading{h, numberedBoxes(2), []int{0}}, loading{h, numberedBoxes(2), []int{1, 2}})
		if many := h.Bays * h.Rows * h.Tiers; many >= 0 && many <= 200 {
			plan := make([]int, many)
			list = append(list, loading{h, nil, plan})
			if many > 0 {
				list = append(list, loading{h, numberedBoxes(2), plan}.withSlot(0, 1))
			}
		}
	}
	return list
}

// ofWrongLength has a slot too many, in front, between and behind, one too few, none, and twice as many.
func ofWrongLength(l loading) []loading {
	many := len(l.plan)
	list := []loading{l.with(nil), l.with([]int{}), l.with(l.plan[:many-1]), l.with(l.plan[1:]), l.with(slices.Concat(l.plan, l.plan)), l.with(slices.Concat(l.plan, make([]int, many)))}
	for at := range many + 1 {
		list = append(list, l.with(slices.Insert(slices.Clone(l.plan), at, 0)))
	}
	for _, id := range l.notLoaded() {
		list = append(list, l.with(append(slices.Clone(l.plan), id)))
	}
	return list
}

// withWrongIds has an id of no box in one slot, which is not above an empty one, or that of a box that is in another slot, too.
func withWrongIds(l loading) []loading {
	var list []loading
	slots := nextOf(l)
	for slot, id := range l.plan {
		if id != 0 {
			slots = append(slots, slot)
		}
	}
	for _, slot := range slots {
		for _, id := range slices.Concat(idsOfNoBox, idsNotValid, []int{-500, 500 + 1<<32, 1 << 32}) {
			if id != 0 {
				list = append(list, l.withSlot(slot, id))
			}
		}
		for other, id := range l.plan {
			if other != slot && id != 0 {
				list = append(list, l.withSlot(slot, id))
			}
		}
		if i := slices.Index(idsOf(l.boxes), l.plan[slot]); i >= 0 {
			list = append(list, l.withBoxes(slices.Delete(slices.Clone(l.boxes), i, i+1)))
		}
	}
	return list
}

// withFloats has a box above an empty slot: one whose box was taken away, or one that was empty before.
func withFloats(l loading) []loading {
	var list []loading
	for slot, id := range l.plan {
		higher, ok := l.above(slot)
		if !ok {
			continue
		}
		if id != 0 && higher != 0 {
			list = append(list, l.withSlot(slot, 0))
		}
		for _, other := range l.notLoaded() {
			if id == 0 {
				list = append(list, l.withSlot(slot+1, other))
			}
		}
	}
	return list
}

// withWrongBoxes has one box more that is not valid or comes twice, or too many boxes, though the plan needs none of them.
func withWrongBoxes(l loading) []loading {
	var list []loading
	for _, b := range []impl.Box{{}, {Id: 7}, {Id: 0, Weight: 5}, {Id: -1, Weight: 5}, {Id: 1000, Weight: 5}, {Id: 7, Weight: 31}, {Id: 7, Weight: 5, Class: 4}, {Id: 7, Weight: 5, Port: -1}} {
		if len(l.boxes) < 10 {
			list = append(list, l.withBoxes(append(slices.Clone(l.boxes), b)), l.withBoxes(slices.Insert(slices.Clone(l.boxes), 0, b)))
		} else if loaded := slices.Contains(l.plan, l.boxes[9].Id); !loaded {
			list = append(list, l.withBoxes(append(slices.Clone(l.boxes[:9]), b)))
		}
	}
	for _, b := range l.boxes {
		if len(l.boxes) < 10 {
			list = append(list, l.withBoxes(append(slices.Clone(l.boxes), b)), l.withBoxes(append(slices.Clone(l.boxes), impl.Box{Id: b.Id, Weight: 3})))
		}
	}
	more := slices.Clone(l.boxes)
	for id := 600; len(more) < 11; id++ {
		more = append(more, impl.Box{Id: id, Weight: 5})
	}
	return append(list, l.withBoxes(more))
}

// invalidLoadings has ships, boxes and plans that are not valid for one reason each.
func invalidLoadings() []loading {
	list := onWrongShips()
	for _, l := range fewLoadings() {
		list = slices.Concat(list, ofWrongLength(l), withWrongIds(l), withFloats(l), withWrongBoxes(l))
	}
	for _, boxes := range invalidLists() {
		for _, h := range []impl.Hull{oneSlot, mostSlots} {
			empty := loading{h, boxes, make([]int, len(placesOf(h)))}
			list = append(list, empty)
			if len(boxes) < 20 {
				list = append(list, empty.withSlot(0, boxes[0].Id))
			}
		}
	}
	return list
}

func TestPlanValidOfKnownPlans(t *testing.T) {
	four := impl.Hull{Bays: 1, Rows: 2, Tiers: 2}
	three := numberedBoxes(3)
	tower := impl.Hull{Bays: 1, Rows: 1, Tiers: 3}
	line := impl.Hull{Bays: 3, Rows: 1, Tiers: 1}
	for _, k := range []struct {
		loading
		want bool
	}{
		{loading{four, three, []int{1, 2, 0, 0}}, true},
		{loading{four, three, []int{0, 0, 1, 2}}, true},
		{loading{four, three, []int{3, 0, 1, 0}}, true},
		{loading{four, three, []int{3, 2, 1, 0}}, true},
		{loading{four, three, []int{0, 0, 0, 0}}, true},
		{loading{four, nil, []int{0, 0, 0, 0}}, true},
		{loading{four, numberedBoxes(10), []int{10, 9, 8, 7}}, true},
		// Above an empty slot.
		{loading{four, three, []int{0, 2, 0, 0}}, false},
		{loading{four, three, []int{1, 0, 0, 2}}, false},
		{loading{tower, three, []int{1, 0, 2}}, false},
		{loading{tower, three, []int{0, 1, 2}}, false},
		{loading{tower, three, []int{0, 0, 2}}, false},
		{loading{tower, three, []int{3, 1, 2}}, true},
		// The lowest slot of a row is above none, though the one before it is empty.
		{loading{line, three, []int{0, 1, 0}}, true},
		{loading{line, three, []int{0, 0, 1}}, true},
		// Twice, in the same row and in another one.
		{loading{four, three, []int{1, 1, 0, 0}}, false},
		{loading{four, three, []int{1, 0, 1, 0}}, false},
		{loading{four, three, []int{1, 2, 3, 1}}, false},
		// Ids of no box.
		{loading{four, three, []int{4, 0, 0, 0}}, false},
		{loading{four, three, []int{1, 2, 3, 4}}, false},
		{loading{four, three, []int{-1, 0, 0, 0}}, false},
		{loading{four, three, []int{1, -2, 0, 0}}, false},
		{loading{four, nil, []int{1, 0, 0, 0}}, false},
		{loading{four, three, []int{1000, 0, 0, 0}}, false},
		// Slots too many and too few.
		{loading{four, three, []int{1, 2, 0}}, false},
		{loading{four, three, []int{1, 2, 0, 0, 0}}, false},
		{loading{four, three, []int{}}, false},
		{loading{four, three, nil}, false},
		// Boxes that are not valid.
		{loading{four, []impl.Box{{Id: 1, Weight: 5}, {Id: 1, Weight: 5}}, []int{1, 0, 0, 0}}, false},
		{loading{four, []impl.Box{{Id: 1, Weight: 5}, {Id: 1, Weight: 6}}, []int{0, 0, 0, 0}}, false},
		{loading{four, []impl.Box{{Id: 1}}, []int{1, 0, 0, 0}}, false},
		{loading{four, []impl.Box{{Id: 0, Weight: 5}}, []int{0, 0, 0, 0}}, false},
		{loading{four, []impl.Box{{Id: -1, Weight: 5}}, []int{-1, 0, 0, 0}}, false},
		{loading{four, numberedBoxes(11), []int{1, 0, 0, 0}}, false},
		// One slot.
		{loading{oneSlot, three, []int{0}}, true},
		{loading{oneSlot, three, []int{3}}, true},
		{loading{oneSlot, three, []int{4}}, false},
		{loading{oneSlot, three, nil}, false},
		{loading{oneSlot, three, []int{1, 2}}, false},
		// Ships that are not valid.
		{loading{impl.Hull{}, three, nil}, false},
		{loading{impl.Hull{}, three, []int{0}}, false},
		{loading{impl.Hull{Bays: 5, Rows: 1, Tiers: 1}, three, []int{1, 2, 3, 0, 0}}, false},
		{loading{impl.Hull{Bays: 1, Rows: 4, Tiers: 1}, three, []int{1, 2, 3, 0}}, false},
		{loading{impl.Hull{Bays: 1, Rows: 1, Tiers: 4}, three, []int{1, 2, 3, 0}}, false},
		{loading{impl.Hull{Bays: -1, Rows: -1, Tiers: 1}, three, []int{1}}, false},
	} {
		if got := k.valid(); got != k.want {
			t.Errorf("PlanValid of %+v is %v", k.loading, got)
		}
	}
}

func TestPlanValidOfAllSmallPlans(t *testing.T) {
	many := map[impl.Hull]int{}
	for _, l := range allSmallPlans() {
		got := l.valid()
		if got != planIsValid(l) {
			t.Errorf("PlanValid of %+v is %v", l, got)
		}
		if got {
			many[l.ship]++
		}
	}
	// Counted by hand, by the number of boxes in the plan: none, one, two, three.
	for h, want := range map[impl.Hull]int{
		oneSlot:                      1 + 3,
		{Bays: 1, Rows: 1, Tiers: 2}: 1 + 3 + 6,
		{Bays: 1, Rows: 1, Tiers: 3}: 1 + 3 + 6 + 6,
		{Bays: 1, Rows: 2, Tiers: 1}: 1 + 2*3 + 6,
		{Bays: 1, Rows: 3, Tiers: 1}: 1 + 3*3 + 3*6 + 6,
		{Bays: 1, Rows: 2, Tiers: 2}: 1 + 2*3 + 3*6 + 2*6,
		{Bays: 2, Rows: 1, Tiers: 2}: 1 + 2*3 + 3*6 + 2*6,
		{Bays: 4, Rows: 1, Tiers: 1}: 1 + 4*3 + 6*6 + 4*6,
	} {
		if many[h] != want {
			t.Errorf("%d plans of %+v are valid, not %d", many[h], h, want)
		}
	}
}

func TestPlanValidOfValidPlans(t *testing.T) {
	for _, l := range validLoadings() {
		if !l.valid() {
			t.Fatalf("%+v is not valid", l)
		}
	}
}

func TestPlanValidOfOtherPlans(t *testing.T) {
	for _, l := range invalidLoadings() {
		if l.valid() {
			t.Fatalf("%+v is valid", l)
		}
	}
}

func TestP68NothingFloats(t *testing.T) {
	for _, l := range append(allSmallPlans(), validLoadings()...) {
		if !l.valid() {
			continue
		}
		for slot, id := range l.plan {
			if below := impl.SlotBelow(l.ship, slot); id != 0 && below != -1 && l.plan[below] == 0 {
				t.Errorf("%+v is valid, but %d is above an empty slot", l, id)
			}
		}
	}
	for _, l := range validLoadings() {
		for _, floating := range withFloats(l) {
			if floating.valid() {
				t.Errorf("%+v is valid", floating)
			}
		}
	}
	for _, h := range validShips() {
		for _, boxes := range validLists() {
			if !impl.PlanValid(h, boxes, make([]int, len(placesOf(h)))) {
				t.Errorf("the plan of %+v without boxes is not valid with %+v", h, boxes)
			}
		}
	}
}

func TestP69EmptyShipsHaveNoBoxes(t *testing.T) {
	for _, h := range validShips() {
		plan := impl.PlanEmpty(h)
		if want := len(placesOf(h)); len(plan) != want || !slices.Equal(plan, make([]int, want)) {
			t.Errorf("PlanEmpty of %+v is %v", h, plan)
		}
		if l := (loading{h, manyBoxes(), plan}); !l.valid() || len(l.ids()) != 0 {
			t.Errorf("PlanEmpty of %+v is %v, with the boxes %v", h, plan, l.ids())
		}
	}
}

func TestPlanEmptyOfOtherShips(t *testing.T) {
	for _, h := range invalidShips() {
		if got := impl.PlanEmpty(h); len(got) != 0 {
			t.Fatalf("PlanEmpty of %+v is %v", h, got)
		}
	}
}

func TestPlanFindInKnownPlans(t *testing.T) {
	ship := impl.Hull{Bays: 2, Rows: 1, Tiers: 2}
	boxes := numberedBoxes(4)
	for _, k := range []struct {
		loading
		id   int
		want int
	}{
		{loading{ship, boxes, []int{3, 0, 2, 4}}, 3, 0},
		{loading{ship, boxes, []int{3, 0, 2, 4}}, 2, 2},
		{loading{ship, boxes, []int{3, 0, 2, 4}}, 4, 3},
		{loading{ship, boxes, []int{3, 0, 2, 4}}, 1, -1},
		{loading{ship, boxes, []int{3, 0, 2, 4}}, 5, -1},
		// The empty slots have the id 0, which no box has.
		{loading{ship, boxes, []int{3, 0, 2, 4}}, 0, -1},
		{loading{ship, boxes, []int{0, 0, 0, 0}}, 0, -1},
		{loading{ship, boxes, []int{3, 0, 2, 4}}, -3, -1},
		{loading{ship, boxes, []int{3, 0, 2, 4}}, -1, -1},
		{loading{ship, boxes, []int{4, 3, 2, 1}}, 1, 3},
		{loading{oneSlot, boxes, []int{4}}, 4, 0},
		{loading{oneSlot, boxes, []int{4}}, 3, -1},
		{loading{oneSlot, boxes, []int{0}}, 4, -1},
		{loading{oneSlot, nil, []int{0}}, 0, -1},
		// Other arguments, which have the box.
		{loading{ship, boxes, []int{3, 0, 2}}, 3, -1},
		{loading{ship, boxes, []int{3, 0, 0, 4}}, 3, -1},
		{loading{ship, boxes, []int{3, 3, 0, 0}}, 3, -1},
		{loading{ship, boxes, []int{3, 5, 0, 0}}, 3, -1},
		{loading{ship, boxes, []int{3, 5, 0, 0}}, 5, -1},
		{loading{ship, boxes, []int{-3, 0, 0, 0}}, -3, -1},
		{loading{ship, nil, []int{3, 0, 2, 4}}, 3, -1},
		{loading{ship, append(numberedBoxes(4), impl.Box{Id: 3, Weight: 5}), []int{3, 0, 2, 4}}, 3, -1},
		{loading{impl.Hull{}, boxes, []int{3}}, 3, -1},
		{loading{impl.Hull{}, boxes, nil}, 3, -1},
	} {
		if got := k.find(k.id); got != k.want {
			t.Errorf("PlanFind of %+v, %d is %d, not %d", k.loading, k.id, got, k.want)
		}
	}
}

func TestP70BoxesAreFoundWhereTheyAre(t *testing.T) {
	for _, l := range validLoadings() {
		for slot, id := range l.plan {
			if id == 0 {
				continue
			}
			if got := l.find(id); got != slot || l.plan[got] != id {
				t.Fatalf("PlanFind of %+v, %d is %d, not %d", l, id, got, slot)
			}
		}
		for id := -1; id <= 1001; id++ {
			if got := l.find(id); got == -1 && id != 0 && slices.Contains(l.plan, id) || got != -1 && l.plan[got] != id {
				t.Fatalf("PlanFind of %+v, %d is %d", l, id, got)
			}
		}
	}
}

func TestPlanFindOfOtherIds(t *testing.T) {
	for _, l := range validLoadings() {
		others := slices.Concat(l.notLoaded(), idsOfNoBox, idsNotValid, []int{-500, -999, 1 << 32})
		for _, id := range l.plan {
			if id != 0 {
				others = append(others, -id, id+1<<32, id-1<<32)
			}
		}
		for _, id := range others {
			if got := l.find(id); got != -1 {
				t.Fatalf("PlanFind of %+v, %d is %d, not -1", l, id, got)
			}
		}
	}
}

func TestPlanFindInOtherPlans(t *testing.T) {
	for _, l := range invalidLoadings() {
		for _, id := range append([]int{0, 1, 500}, l.plan[:min(len(l.plan), 4)]...) {
			if got := l.find(id); got != -1 {
				t.Fatalf("PlanFind of %+v, %d is %d, not -1", l, id, got)
			}
		}
	}
}

// checkPlanPut asks twice, so that it shows if the first answer leaves something behind.
func checkPlanPut(t *testing.T, l loading, slot int, id int, want []int, wantOk bool) {
	t.Helper()
	for range 2 {
		if got, ok := l.put(slot, id); !slices.Equal(got, want) || ok != wantOk {
			t.Fatalf("PlanPut of %+v, %d, %d is %v, %v, not %v, %v", l, slot, id, got, ok, want, wantOk)
		}
	}
}

func TestPlanPutIntoKnownPlans(t *testing.T) {
	four := loading{impl.Hull{Bays: 1, Rows: 2, Tiers: 2}, numberedBoxes(5), []int{1, 2, 0, 0}}
	checkPlanPut(t, four, 2, 3, []int{1, 2, 3, 0}, true)
	checkPlanPut(t, four.with([]int{0, 0, 0, 0}), 0, 5, []int{5, 0, 0, 0}, true)
	checkPlanPut(t, four.with([]int{0, 0, 4, 0}), 3, 5, []int{0, 0, 4, 5}, true)
	checkPlanPut(t, four.with([]int{1, 2, 3, 0}), 3, 4, []int{1, 2, 3, 4}, true)
	checkPlanPut(t, loading{oneSlot, numberedBoxes(1), []int{0}}, 0, 1, []int{1}, true)
	checkPlanPut(t, loading{impl.Hull{Bays: 1, Rows: 1, Tiers: 3}, numberedBoxes(10), []int{8, 9, 0}}, 2, 10, []int{8, 9, 10}, true)
	// No such slot.
	for _, slot := range []int{-1, -4, 4, 5, 1 << 32, 2 + 1<<32} {
		checkPlanPut(t, four, slot, 3, four.plan, false)
	}
	// A slot that is not empty, for another box, its own one, and that of the other slot.
	checkPlanPut(t, four, 1, 3, four.plan, false)
	checkPlanPut(t, four, 0, 3, four.plan, false)
	checkPlanPut(t, four, 0, 1, four.plan, false)
	checkPlanPut(t, four, 1, 1, four.plan, false)
	// The box is there already.
	checkPlanPut(t, four, 2, 1, four.plan, false)
	checkPlanPut(t, four, 2, 2, four.plan, false)
	// An empty slot above an empty one.
	checkPlanPut(t, four, 3, 3, four.plan, false)
	// Not from 1 on: with 0 the plan would be as it was.
	checkPlanPut(t, four, 2, 0, four.plan, false)
	checkPlanPut(t, four, 3, 0, four.plan, false)
	checkPlanPut(t, four, 1, 0, four.plan, false)
	checkPlanPut(t, four, 4, 0, four.plan, false)
	checkPlanPut(t, four, 2, -1, four.plan, false)
	checkPlanPut(t, four, 2, -3, four.plan, false)
	// Of no box.
	checkPlanPut(t, four, 2, 6, four.plan, false)
	checkPlanPut(t, four, 2, 1000, four.plan, false)
	checkPlanPut(t, loading{oneSlot, nil, []int{0}}, 0, 1, []int{0}, false)
	// A full ship.
	checkPlanPut(t, loading{oneSlot, numberedBoxes(2), []int{1}}, 0, 2, []int{1}, false)
	for slot := -1; slot <= 4; slot++ {
		full := four.with([]int{1, 2, 3, 4})
		checkPlanPut(t, full, slot, 5, full.plan, false)
	}
	// Other arguments.
	checkPlanPut(t, four.with([]int{1, 2, 0}), 2, 3, nil, false)
	checkPlanPut(t, four.with([]int{0, 2, 0, 0}), 0, 1, nil, false)
	checkPlanPut(t, four.with([]int{1, 1, 0, 0}), 2, 3, nil, false)
	checkPlanPut(t, four.with([]int{1, 6, 0, 0}), 2, 3, nil, false)
	checkPlanPut(t, four.with([]int{-1, 0, 0, 0}), 2, 3, nil, false)
	checkPlanPut(t, four.with(nil), 0, 3, nil, false)
	checkPlanPut(t, four.withBoxes(numberedBoxes(11)), 2, 3, nil, false)
	checkPlanPut(t, four.withBoxes(append(numberedBoxes(3), impl.Box{Id: 3, Weight: 5})), 2, 3, nil, false)
	checkPlanPut(t, loading{impl.Hull{}, numberedBoxes(5), []int{0}}, 0, 3, nil, false)
}

func TestP71WhatWasPutCanBeTaken(t *testing.T) {
	for _, l := range validLoadings() {
		for _, slot := range nextOf(l) {
			for _, id := range l.notLoaded() {
				after, ok := l.put(slot, id)
				if !ok || !slices.Equal(after, l.withSlot(slot, id).plan) || !l.with(after).valid() {
					t.Fatalf("PlanPut of %+v, %d, %d is %v, %v", l, slot, id, after, ok)
				}
				if back, taken := l.with(after).take(slot); taken != id || !slices.Equal(back, l.plan) {
					t.Fatalf("PlanTake of %v, %d is %v, %d, not %v, %d", after, slot, back, taken, l.plan, id)
				}
			}
		}
	}
}

// A box that is on the ship already, one that is not there, and one for a slot that is not next.
func TestPlanPutThatIsRefused(t *testing.T) {
	for _, l := range validLoadings() {
		next := nextOf(l)
		for slot := range l.plan {
			refused := slices.Concat(l.plan, idsOfNoBox, idsNotValid)
			if !slices.Contains(next, slot) {
				refused = append(refused, l.notLoaded()...)
			}
			for _, id := range refused {
				checkPlanPut(t, l, slot, id, l.plan, false)
			}
		}
	}
}

func TestPlanPutIntoSlotsThatAreNotThere(t *testing.T) {
	for _, l := range fewLoadings() {
		for _, slot := range noSlots(len(l.plan)) {
			for _, id := range append(idsOf(l.boxes), 0, -1, 3) {
				checkPlanPut(t, l, slot, id, l.plan, false)
			}
		}
	}
}

func TestPlanPutIntoOtherPlans(t *testing.T) {
	for _, l := range invalidLoadings() {
		for _, slot := range []int{-1, 0, 1, len(l.plan) - 1, len(l.plan)} {
			for _, id := range []int{0, 1, 500} {
				checkPlanPut(t, l, slot, id, nil, false)
			}
		}
	}
}

// Of all small plans every answer is held against the document.
func TestPlanPutIntoAllSmallPlans(t *testing.T) {
	for _, l := range allSmallPlans() {
		for slot := -1; slot <= len(l.plan); slot++ {
			for id := -1; id <= 4; id++ {
				switch {
				case !planIsValid(l):
					checkPlanPut(t, l, slot, id, nil, false)
				case slot < 0 || slot == len(l.plan) || l.plan[slot] != 0 || id < 1 || !planIsValid(l.withSlot(slot, id)):
					checkPlanPut(t, l, slot, id, l.plan, false)
				default:
					checkPlanPut(t, l, slot, id, l.withSlot(slot, id).plan, true)
				}
			}
		}
	}
}

// checkPlanTake asks twice, as checkPlanPut does.
func checkPlanTake(t *testing.T, l loading, slot int, want []int, wantId int) {
	t.Helper()
	for range 2 {
		if got, id := l.take(slot); !slices.Equal(got, want) || id != wantId {
			t.Fatalf("PlanTake of %+v, %d is %v, %d, not %v, %d", l, slot, got, id, want, wantId)
		}
	}
}

func TestPlanTakeOffKnownPlans(t *testing.T) {
	four := loading{impl.Hull{Bays: 1, Rows: 2, Tiers: 2}, numberedBoxes(5), []int{1, 2, 3, 0}}
	checkPlanTake(t, four, 1, []int{1, 0, 3, 0}, 2)
	checkPlanTake(t, four, 2, []int{1, 2, 0, 0}, 3)
	checkPlanTake(t, four.with([]int{5, 0, 0, 0}), 0, []int{0, 0, 0, 0}, 5)
	checkPlanTake(t, four.with([]int{1, 2, 3, 4}), 3, []int{1, 2, 3, 0}, 4)
	checkPlanTake(t, loading{oneSlot, numberedBoxes(1), []int{1}}, 0, []int{0}, 1)
	// A box above it, directly and not.
	checkPlanTake(t, four, 0, four.plan, -1)
	tower := loading{impl.Hull{Bays: 1, Rows: 1, Tiers: 3}, numberedBoxes(5), []int{1, 2, 3}}
	checkPlanTake(t, tower, 0, tower.plan, -1)
	checkPlanTake(t, tower, 1, tower.plan, -1)
	checkPlanTake(t, tower, 2, []int{1, 2, 0}, 3)
	checkPlanTake(t, tower.with([]int{1, 2, 0}), 1, []int{1, 0, 0}, 2)
	// The next slot is not above it, but in another row.
	line := loading{impl.Hull{Bays: 2, Rows: 2, Tiers: 1}, numberedBoxes(4), []int{1, 2, 3, 4}}
	checkPlanTake(t, line, 0, []int{0, 2, 3, 4}, 1)
	checkPlanTake(t, line, 1, []int{1, 0, 3, 4}, 2)
	// No box in it.
	checkPlanTake(t, four, 3, four.plan, -1)
	checkPlanTake(t, tower.with([]int{1, 0, 0}), 1, []int{1, 0, 0}, -1)
	checkPlanTake(t, tower.with([]int{1, 0, 0}), 2, []int{1, 0, 0}, -1)
	checkPlanTake(t, loading{oneSlot, nil, []int{0}}, 0, []int{0}, -1)
	// No such slot.
	for _, slot := range []int{-1, -4, 4, 5, 1 << 32, 1 + 1<<32} {
		checkPlanTake(t, four, slot, four.plan, -1)
	}
	// Other arguments.
	checkPlanTake(t, four.with([]int{1, 2, 3}), 1, nil, -1)
	checkPlanTake(t, four.with([]int{0, 2, 0, 0}), 1, nil, -1)
	checkPlanTake(t, four.with([]int{1, 1, 0, 0}), 1, nil, -1)
	checkPlanTake(t, four.with([]int{1, 6, 0, 0}), 0, nil, -1)
	checkPlanTake(t, four.with([]int{1, -1, 0, 0}), 1, nil, -1)
	checkPlanTake(t, four.with(nil), 0, nil, -1)
	checkPlanTake(t, four.withBoxes(numberedBoxes(11)), 1, nil, -1)
	checkPlanTake(t, four.withBoxes(append(numberedBoxes(3), impl.Box{Id: 3, Weight: 5})), 1, nil, -1)
	checkPlanTake(t, loading{impl.Hull{}, numberedBoxes(5), []int{1}}, 0, nil, -1)
}

func TestP72WhatWasTakenCanBePutBack(t *testing.T) {
	for _, l := range validLoadings() {
		for slot, id := range l.plan {
			if higher, _ := l.above(slot); id == 0 || higher != 0 {
				continue
			}
			after, taken := l.take(slot)
			if taken != id || !slices.Equal(after, l.withSlot(slot, 0).plan) || !l.with(after).valid() {
				t.Fatalf("PlanTake of %+v, %d is %v, %d", l, slot, after, taken)
			}
			if back, ok := l.with(after).put(slot, id); !ok || !slices.Equal(back, l.plan) {
				t.Fatalf("PlanPut of %v, %d, %d is %v, %v", after, slot, id, back, ok)
			}
			if next := l.with(after).next(); !slices.Contains(next, slot) {
				t.Fatalf("PlanNext of %v is %v, without %d", after, next, slot)
			}
		}
	}
}

// An empty slot, one below a box, and one that is not there.
func TestPlanTakeThatIsRefused(t *testing.T) {
	for _, l := range validLoadings() {
		for slot, id := range l.plan {
			if higher, _ := l.above(slot); id == 0 || higher != 0 {
				checkPlanTake(t, l, slot, l.plan, -1)
			}
		}
		for _, slot := range noSlots(len(l.plan)) {
			checkPlanTake(t, l, slot, l.plan, -1)
		}
	}
}

func TestPlanTakeOffOtherPlans(t *testing.T) {
	for _, l := range invalidLoadings() {
		for slot := -1; slot <= len(l.plan); slot++ {
			checkPlanTake(t, l, slot, nil, -1)
		}
	}
}

// Of all small plans every answer is held against the document.
func TestPlanTakeOffAllSmallPlans(t *testing.T) {
	for _, l := range allSmallPlans() {
		for slot := -1; slot <= len(l.plan); slot++ {
			switch {
			case !planIsValid(l):
				checkPlanTake(t, l, slot, nil, -1)
			case slot < 0 || slot == len(l.plan) || l.plan[slot] == 0 || !planIsValid(l.withSlot(slot, 0)):
				checkPlanTake(t, l, slot, l.plan, -1)
			default:
				checkPlanTake(t, l, slot, l.withSlot(slot, 0).plan, l.plan[slot])
			}
		}
	}
}

func TestPlanIdsOfKnownPlans(t *testing.T) {
	ship := impl.Hull{Bays: 2, Rows: 1, Tiers: 2}
	boxes := numberedBoxes(4)
	for _, k := range []struct {
		loading
		want []int
	}{
		{loading{ship, boxes, []int{3, 0, 2, 4}}, []int{3, 2, 4}},
		{loading{ship, boxes, []int{4, 3, 2, 1}}, []int{4, 3, 2, 1}},
		{loading{ship, boxes, []int{0, 0, 2, 1}}, []int{2, 1}},
		{loading{ship, boxes, []int{0, 0, 0, 0}}, nil},
		{loading{ship, nil, []int{0, 0, 0, 0}}, nil},
		{loading{oneSlot, boxes, []int{4}}, []int{4}},
		{loading{oneSlot, boxes, []int{0}}, nil},
		{loading{impl.Hull{Bays: 4, Rows: 3, Tiers: 1}, manyBoxes(), []int{0, 500, 999, 1, 2, 998, 17, 4, 40, 400, 50, 0}}, []int{500, 999, 1, 2, 998, 17, 4, 40, 400, 50}},
		// Other arguments.
		{loading{ship, boxes, []int{3, 0, 2}}, nil},
		{loading{ship, boxes, []int{3, 0, 0, 4}}, nil},
		{loading{ship, boxes, []int{3, 3, 0, 0}}, nil},
		{loading{ship, boxes, []int{3, 5, 0, 0}}, nil},
		{loading{ship, boxes, []int{3, -2, 0, 0}}, nil},
		{loading{ship, numberedBoxes(11), []int{3, 0, 0, 0}}, nil},
		{loading{ship, nil, []int{3, 0, 0, 0}}, nil},
		{loading{impl.Hull{}, boxes, []int{3}}, nil},
	} {
		if got := k.ids(); !slices.Equal(got, k.want) {
			t.Errorf("PlanIds of %+v is %v, not %v", k.loading, got, k.want)
		}
	}
}

func TestP73EveryBoxIsOnceOnTheShip(t *testing.T) {
	for _, l := range validLoadings() {
		ids := l.ids()
		last := -1
		for i, id := range ids {
			if !slices.Contains(idsOf(l.boxes), id) || slices.Contains(ids[:i], id) {
				t.Fatalf("PlanIds of %+v is %v: %d is of no box, or there twice", l, ids, id)
			}
			slot := l.find(id)
			if slot <= last || l.plan[slot] != id {
				t.Fatalf("PlanIds of %+v is %v: %d is in the slot %d", l, ids, id, slot)
			}
			last = slot
		}
		for slot, id := range l.plan {
			if id != 0 && !slices.Contains(ids, id) {
				t.Fatalf("PlanIds of %+v is %v, without that of the slot %d", l, ids, slot)
			}
		}
	}
}

func TestPlanIdsOfOtherPlans(t *testing.T) {
	for _, l := range invalidLoadings() {
		if got := l.ids(); len(got) != 0 {
			t.Fatalf("PlanIds of %+v is %v", l, got)
		}
	}
}

func TestPlanNextOfKnownPlans(t *testing.T) {
	four := impl.Hull{Bays: 1, Rows: 2, Tiers: 2}
	boxes := numberedBoxes(4)
	for _, k := range []struct {
		loading
		want []int
	}{
		{loading{four, boxes, []int{1, 2, 0, 0}}, []int{2}},
		{loading{four, boxes, []int{1, 0, 0, 0}}, []int{1, 2}},
		{loading{four, boxes, []int{0, 0, 1, 0}}, []int{0, 3}},
		{loading{four, boxes, []int{0, 0, 0, 0}}, []int{0, 2}},
		{loading{four, boxes, []int{0, 0, 3, 4}}, []int{0}},
		// Full, and without boxes that could be put.
		{loading{four, boxes, []int{1, 2, 3, 4}}, nil},
		{loading{four, numberedBoxes(10), []int{1, 2, 3, 4}}, nil},
		{loading{four, numberedBoxes(1), []int{1, 0, 0, 0}}, []int{1, 2}},
		{loading{four, nil, []int{0, 0, 0, 0}}, []int{0, 2}},
		{loading{oneSlot, boxes, []int{0}}, []int{0}},
		{loading{oneSlot, nil, []int{0}}, []int{0}},
		{loading{oneSlot, boxes, []int{1}}, nil},
		{loading{impl.Hull{Bays: 1, Rows: 1, Tiers: 3}, boxes, []int{0, 0, 0}}, []int{0}},
		{loading{impl.Hull{Bays: 1, Rows: 1, Tiers: 3}, boxes, []int{4, 0, 0}}, []int{1}},
		{loading{impl.Hull{Bays: 1, Rows: 1, Tiers: 3}, boxes, []int{4, 2, 0}}, []int{2}},
		{loading{impl.Hull{Bays: 2, Rows: 2, Tiers: 1}, boxes, []int{0, 4, 0, 2}}, []int{0, 2}},
		// Other arguments.
		{loading{four, boxes, []int{1, 2, 0}}, nil},
		{loading{four, boxes, []int{0, 2, 0, 0}}, nil},
		{loading{four, boxes, []int{1, 1, 0, 0}}, nil},
		{loading{four, boxes, []int{5, 0, 0, 0}}, nil},
		{loading{four, boxes, []int{-1, 0, 0, 0}}, nil},
		{loading{four, boxes, nil}, nil},
		{loading{four, numberedBoxes(11), []int{0, 0, 0, 0}}, nil},
		{loading{four, []impl.Box{{Id: 1}}, []int{0, 0, 0, 0}}, nil},
		{loading{impl.Hull{}, boxes, nil}, nil},
		{loading{impl.Hull{Bays: 5, Rows: 1, Tiers: 1}, boxes, []int{0, 0, 0, 0, 0}}, nil},
	} {
		if got := k.next(); !slices.Equal(got, k.want) {
			t.Errorf("PlanNext of %+v is %v, not %v", k.loading, got, k.want)
		}
	}
}

func TestP74ThereIsOneNextSlotInEachRowThatIsNotFull(t *testing.T) {
	for _, l := range validLoadings() {
		next := l.next()
		if !slices.Equal(next, nextOf(l)) {
			t.Fatalf("PlanNext of %+v is %v, not %v", l, next, nextOf(l))
		}
		room := 0
		for _, row := range rowsOf(l.ship) {
			if l.plan[row[len(row)-1]] == 0 {
				room++
			}
		}
		if len(next) != room {
			t.Fatalf("PlanNext of %+v is %v, but %d rows have room", l, next, room)
		}
		for slot := range l.plan {
			for _, id := range l.notLoaded() {
				if _, ok := l.put(slot, id); ok != slices.Contains(next, slot) {
					t.Fatalf("PlanNext of %+v is %v, but %d can be put into %d: %v", l, next, id, slot, ok)
				}
			}
		}
	}
}

func TestPlanNextOfOtherPlans(t *testing.T) {
	for _, l := range invalidLoadings() {
		if got := l.next(); len(got) != 0 {
			t.Fatalf("PlanNext of %+v is %v", l, got)
		}
	}
}

// Of all small plans every answer is held against the document.
func TestAnswersOfAllSmallPlans(t *testing.T) {
	for _, l := range allSmallPlans() {
		var ids, next []int
		valid := planIsValid(l)
		if valid {
			ids = slices.DeleteFunc(slices.Clone(l.plan), func(id int) bool { return id == 0 })
			next = nextOf(l)
		}
		if !slices.Equal(l.ids(), ids) || !slices.Equal(l.next(), next) {
			t.Fatalf("PlanIds of %+v is %v, PlanNext is %v", l, l.ids(), l.next())
		}
		for id := -1; id <= 4; id++ {
			want := -1
			if valid && id > 0 {
				want = slices.Index(l.plan, id)
			}
			if got := l.find(id); got != want {
				t.Fatalf("PlanFind of %+v, %d is %d, not %d", l, id, got, want)
			}
		}
	}
}

// planAnswers has the lists that are returned for a plan, those of calls that change it and of calls that do not.
func planAnswers(l loading) [][]int {
	list := [][]int{impl.PlanEmpty(l.ship), l.ids(), l.next()}
	for _, slot := range []int{-1, 0, 1, 2, len(l.plan) / 2, len(l.plan) - 1, len(l.plan)} {
		for _, id := range []int{0, 1, 3, 500, 999} {
			put, _ := l.put(slot, id)
			list = append(list, put)
		}
		taken, _ := l.take(slot)
		list = append(list, taken)
	}
	return list
}

// withRoom has the same arguments, with room behind the plan and the boxes; the two lists are these with what is there.
func withRoom(l loading) (loading, []int, []impl.Box) {
	wholePlan := append(slices.Clone(l.plan), -7, -8, -9)
	wholeBoxes := append(slices.Clone(l.boxes), manyBoxes()...)
	return loading{l.ship, wholeBoxes[:len(l.boxes)], wholePlan[:len(l.plan)]}, wholePlan, wholeBoxes
}

func TestPlansAreNotChanged(t *testing.T) {
	for _, l := range append(fewLoadings(), invalidLoadings()...) {
		own, wholePlan, wholeBoxes := withRoom(l)
		own.valid()
		for _, id := range []int{0, 1, 3, 500} {
			own.find(id)
		}
		planAnswers(own)
		if !slices.Equal(wholePlan, append(slices.Clone(l.plan), -7, -8, -9)) || !slices.Equal(wholeBoxes, append(slices.Clone(l.boxes), manyBoxes()...)) {
			t.Fatalf("%+v was changed to %v, %+v", l, wholePlan, wholeBoxes)
		}
	}
}

func TestPlansShareNoMemory(t *testing.T) {
	for _, l := range fewLoadings() {
		own, wholePlan, _ := withRoom(l)
		for i, answer := range planAnswers(own) {
			overwrite(answer)
			if !slices.Equal(wholePlan, append(slices.Clone(l.plan), -7, -8, -9)) {
				t.Fatalf("the answer %d for %+v shares memory with the plan", i, l)
			}
		}
	}
}

// Each answer is overwritten while the others are still read, and those of a second round, too.
func TestAnswersOfPlansShareNoMemory(t *testing.T) {
	for _, l := range fewLoadings() {
		answers := append(planAnswers(l), planAnswers(l)...)
		want := make([][]int, len(answers))
		for i, answer := range answers {
			want[i] = slices.Clone(answer)
		}
		for i, answer := range answers {
			if !slices.Equal(answer, want[i]) {
				t.Fatalf("the answer %d for %+v shares memory with an earlier one", i, l)
			}
			overwrite(answer)
		}
		if again := planAnswers(l); !slices.EqualFunc(again, want[:len(again)], slices.Equal) {
			t.Fatalf("the answers for %+v are others after the first ones were overwritten", l)
		}
	}
}
