package tests

import (
	"math"
	"slices"
	"testing"

	"loop.example/containerport/impl"
)

func (l loading) rowWeights() []int {
	return impl.RowWeights(l.ship, l.boxes, l.plan)
}

func (l loading) bears(most int) bool {
	return impl.RowsBear(l.ship, l.boxes, l.plan, most)
}

func (l loading) onLighter() []int {
	return impl.OnLighter(l.ship, l.boxes, l.plan)
}

func (l loading) sortRows() []int {
	return impl.SortRows(l.ship, l.boxes, l.plan)
}

// boundsOfRows are below what any row weighs, what three boxes can weigh at most, and beyond it.
var boundsOfRows = append([]int{-1, -90, 90, 91}, farBounds...)

// weightAt returns the weight of the box in a slot that is not empty.
func weightAt(l loading, slot int) int {
	return l.boxes[slices.Index(idsOf(l.boxes), l.plan[slot])].Weight
}

// fullInRow has the slots that are not empty in the same row of the same bay as a slot, the lowest one first.
func fullInRow(l loading, slot int) []int {
	at := placeOf(l.ship, slot)
	return slices.DeleteFunc(fullSlots(l), func(other int) bool {
		p := placeOf(l.ship, other)
		return p.bay != at.bay || p.row != at.row
	})
}

// rowWeightsOf goes by the document, for a valid plan.
func rowWeightsOf(l loading) []int {
	var list []int
	for bay := range l.ship.Bays {
		for row := range l.ship.Rows {
			weight := 0
			for _, slot := range fullSlots(l) {
				if p := placeOf(l.ship, slot); p.bay == bay && p.row == row {
					weight += weightAt(l, slot)
				}
			}
			list = append(list, weight)
		}
	}
	return list
}

// onLighterOf goes by the document, for a valid plan.
func onLighterOf(l loading) []int {
	var list []int
	for slot, p := range placesOf(l.ship) {
		for lower, q := range placesOf(l.ship) {
			if l.plan[slot] != 0 && q == (shipPlace{p.bay, p.row, p.tier - 1}) && weightAt(l, slot) > weightAt(l, lower) {
				list = append(list, slot)
			}
		}
	}
	return list
}

// sortedOf goes by the document, for a valid plan: below a box there are those of its row that are heavier, and those of its own weight that were below it already.
func sortedOf(l loading) []int {
	plan := make([]int, len(l.plan))
	places := placesOf(l.ship)
	for _, slot := range fullSlots(l) {
		at := places[slot]
		at.tier = 0
		for _, other := range fullInRow(l, slot) {
			if weightAt(l, other) > weightAt(l, slot) || weightAt(l, other) == weightAt(l, slot) && other < slot {
				at.tier++
			}
		}
		plan[slices.Index(places, at)] = l.plan[slot]
	}
	return plan
}

// heaviestLowest has the rows as they are to be, and lightestLowest has them the wrong way round.
func (l loading) heaviestLowest() loading {
	return l.stowed(func(a int, b int) int { return weightAt(l, b) - weightAt(l, a) })
}

func (l loading) lightestLowest() loading {
	return l.stowed(func(a int, b int) int { return weightAt(l, a) - weightAt(l, b) })
}

// withWeight has boxes that all weigh the same.
func (l loading) withWeight(weight int) loading {
	boxes := slices.Clone(l.boxes)
	for i := range boxes {
		boxes[i].Weight = weight
	}
	return l.withBoxes(boxes)
}

// smallTowers has rows of up to three boxes, in every order of their ids, with some weights; and those of two with all.
func smallTowers() []loading {
	tower := impl.Hull{Bays: 1, Rows: 1, Tiers: 3}
	var list []loading
	for many := range 4 {
		for _, weights := range portsLists(many, []int{1, 2, 15, 16, 30}) {
			for _, order := range ordersOf(numberedIds(many)) {
				plan := make([]int, 3)
				copy(plan, order)
				list = append(list, loading{tower, weighing(weights...), plan})
			}
		}
	}
	for lower := 1; lower <= 30; lower++ {
		for higher := 1; higher <= 30; higher++ {
			list = append(list, loading{tower, weighing(higher, lower), []int{2, 1, 0}})
		}
	}
	return list
}

// smallLashings has smallTowers, and rows beside each other, in one bay and in two.
func smallLashings() []loading {
	list := smallTowers()
	for _, h := range []impl.Hull{{Bays: 1, Rows: 2, Tiers: 2}, {Bays: 2, Rows: 1, Tiers: 2}} {
		for _, weights := range portsLists(4, []int{1, 7, 8, 30}) {
			l := loading{h, weighing(weights...), []int{1, 2, 3, 4}}
			list = append(list, l, l.with([]int{4, 0, 2, 1}), l.with([]int{3, 1, 0, 0}), l.with([]int{2, 0, 1, 0}))
		}
	}
	return list
}

// lashings has all valid plans for which lashing is tested: also those with the boxes of every row in order, and the wrong way round.
func lashings() []loading {
	list := smallLashings()
	for _, l := range orderedLoadings() {
		list = append(list, l, l.heaviestLowest(), l.lightestLowest())
	}
	return list
}

// knownLashing is a valid plan with what is known of it, all worked out by hand.
type knownLashing struct {
	loading
	rows    []int
	lighter []int
	sorted  []int
}

// knownPiles has one row of up to three boxes.
func knownPiles() []knownLashing {
	pile := func(weights ...int) loading {
		return loading{impl.Hull{Bays: 1, Rows: 1, Tiers: 3}, weighing(weights...), []int{1, 2, 3}}
	}
	return []knownLashing{
		// The lightest box lowest, in the middle and highest.
		{pile(4, 9, 7), []int{20}, []int{1}, []int{2, 3, 1}},
		{pile(4, 7, 9), []int{20}, []int{1, 2}, []int{3, 2, 1}},
		{pile(9, 4, 7), []int{20}, []int{2}, []int{1, 3, 2}},
		{pile(7, 4, 9), []int{20}, []int{2}, []int{3, 1, 2}},
		{pile(7, 9, 4), []int{20}, []int{1}, []int{2, 1, 3}},
		{pile(9, 7, 4), []int{20}, nil, []int{1, 2, 3}},
		// By one heavier or lighter, also at the bounds of a weight.
		{pile(1, 2, 3), []int{6}, []int{1, 2}, []int{3, 2, 1}},
		{pile(30, 29, 28), []int{87}, nil, []int{1, 2, 3}},
		{pile(29, 30, 1), []int{60}, []int{1}, []int{2, 1, 3}},
		// Two of equal weight, below and above a lighter and a heavier one.
		{pile(5, 5, 3), []int{13}, nil, []int{1, 2, 3}},
		{pile(5, 5, 9), []int{19}, []int{2}, []int{3, 1, 2}},
		{pile(3, 5, 5), []int{13}, []int{1}, []int{2, 3, 1}},
		{pile(9, 5, 5), []int{19}, nil, []int{1, 2, 3}},
		// Two of equal weight that are not beside each other.
		{pile(5, 3, 5), []int{13}, []int{2}, []int{1, 3, 2}},
		{pile(5, 9, 5), []int{19}, []int{1}, []int{2, 1, 3}},
		// All of equal weight.
		{pile(5, 5, 5), []int{15}, nil, []int{1, 2, 3}},
		{pile(1, 1, 1), []int{3}, nil, []int{1, 2, 3}},
		{pile(30, 30, 30), []int{90}, nil, []int{1, 2, 3}},
		// The ids do not matter: those of equal weight stay in the order of the tiers.
		{pile(5, 5, 5).with([]int{3, 1, 2}), []int{15}, nil, []int{3, 1, 2}},
		{pile(5, 5, 5).with([]int{2, 3, 1}), []int{15}, nil, []int{2, 3, 1}},
		{pile(5, 5, 9).with([]int{2, 1, 3}), []int{19}, []int{2}, []int{3, 2, 1}},
		{pile(9, 5, 5).with([]int{3, 2, 1}), []int{19}, []int{2}, []int{1, 3, 2}},
		{pile(9, 5, 5).with([]int{3, 1, 2}), []int{19}, []int{1}, []int{1, 3, 2}},
		{pile(5, 3, 5).with([]int{2, 3, 1}), []int{13}, []int{1}, []int{3, 1, 2}},
		{pile(5, 3, 5).with([]int{3, 2, 1}), []int{13}, []int{2}, []int{3, 1, 2}},
		// Two boxes.
		{pile(4, 9, 7).with([]int{1, 2, 0}), []int{13}, []int{1}, []int{2, 1, 0}},
		{pile(4, 9, 7).with([]int{2, 1, 0}), []int{13}, nil, []int{2, 1, 0}},
		{pile(4, 4, 7).with([]int{2, 1, 0}), []int{8}, nil, []int{2, 1, 0}},
		{pile(4, 5).with([]int{1, 2, 0}), []int{9}, []int{1}, []int{2, 1, 0}},
		// One box.
		{pile(4, 9, 7).with([]int{1, 0, 0}), []int{4}, nil, []int{1, 0, 0}},
		{pile(30).with([]int{1, 0, 0}), []int{30}, nil, []int{1, 0, 0}},
		// None.
		{pile(4, 9, 7).with([]int{0, 0, 0}), []int{0}, nil, []int{0, 0, 0}},
	}
}

func knownLashings() []knownLashing {
	ship := func(bays int, rows int, tiers int) impl.Hull {
		return impl.Hull{Bays: bays, Rows: rows, Tiers: tiers}
	}
	four, ten := weighing(5, 9, 7, 7), manyBoxes()
	return append(knownPiles(), []knownLashing{
		// No boxes on the ship.
		{loading{oneSlot, four, []int{0}}, []int{0}, nil, []int{0}},
		{loading{oneSlot, nil, []int{0}}, []int{0}, nil, []int{0}},
		{loading{ship(2, 1, 3), nil, make([]int, 6)}, []int{0, 0}, nil, make([]int, 6)},
		{loading{mostSlots, ten, make([]int, 36)}, make([]int, 12), nil, make([]int, 36)},
		// One slot.
		{loading{oneSlot, four, []int{2}}, []int{9}, nil, []int{2}},
		{loading{oneSlot, heaviestBoxes(), []int{10}}, []int{30}, nil, []int{10}},
		// One tier: no box lies on another one, though the slot before has a lighter one.
		{loading{ship(1, 3, 1), four, []int{1, 2, 3}}, []int{5, 9, 7}, nil, []int{1, 2, 3}},
		{loading{ship(4, 1, 1), four, []int{1, 3, 0, 2}}, []int{5, 7, 0, 9}, nil, []int{1, 3, 0, 2}},
		{loading{ship(2, 2, 1), four, []int{1, 3, 4, 2}}, []int{5, 7, 7, 9}, nil, []int{1, 3, 4, 2}},
		// Rows beside each other, in one bay and in two: a box that is lighter than the one in the row beside it.
		{loading{ship(1, 2, 2), four, []int{3, 1, 2, 4}}, []int{12, 16}, nil, []int{3, 1, 2, 4}},
		{loading{ship(2, 1, 2), four, []int{3, 1, 2, 4}}, []int{12, 16}, nil, []int{3, 1, 2, 4}},
		{loading{ship(1, 2, 2), four, []int{1, 2, 3, 4}}, []int{14, 14}, []int{1}, []int{2, 1, 3, 4}},
		{loading{ship(2, 1, 2), four, []int{4, 3, 1, 2}}, []int{14, 14}, []int{3}, []int{4, 3, 2, 1}},
		{loading{ship(1, 2, 2), four, []int{1, 3, 4, 2}}, []int{12, 16}, []int{1, 3}, []int{3, 1, 2, 4}},
		{loading{ship(1, 2, 3), four, []int{1, 2, 3, 4, 0, 0}}, []int{21, 7}, []int{1}, []int{2, 3, 1, 4, 0, 0}},
		{loading{ship(2, 2, 2), four, []int{1, 0, 2, 0, 3, 0, 4, 0}}, []int{5, 9, 7, 7}, nil, []int{1, 0, 2, 0, 3, 0, 4, 0}},
		// Rows without boxes beside rows with some.
		{loading{ship(1, 3, 2), four, []int{1, 2, 0, 0, 4, 0}}, []int{14, 0, 7}, []int{1}, []int{2, 1, 0, 0, 4, 0}},
		{loading{ship(1, 3, 2), four, []int{0, 0, 1, 3, 0, 0}}, []int{0, 12, 0}, []int{3}, []int{0, 0, 3, 1, 0, 0}},
		{loading{ship(3, 1, 3), four, []int{0, 0, 0, 1, 0, 0, 3, 4, 2}}, []int{0, 5, 23}, []int{8}, []int{0, 0, 0, 1, 0, 0, 2, 3, 4}},
		{loading{ship(2, 2, 2), four, []int{0, 0, 1, 4, 0, 0, 0, 0}}, []int{0, 12, 0, 0}, []int{3}, []int{0, 0, 4, 1, 0, 0, 0, 0}},
		// Full ships.
		{loading{ship(1, 3, 3), weighing(1, 2, 3, 5, 5, 4, 8, 9, 8), []int{1, 2, 3, 4, 5, 6, 7, 8, 9}}, []int{6, 14, 25}, []int{1, 2, 7}, []int{3, 2, 1, 4, 5, 6, 8, 7, 9}},
		{loading{ship(3, 1, 3), weighing(1, 2, 3, 5, 5, 4, 8, 9, 8), []int{3, 1, 2, 6, 5, 4, 9, 7, 8}}, []int{6, 14, 25}, []int{2, 4, 8}, []int{3, 2, 1, 5, 4, 6, 8, 9, 7}},
		{loading{ship(1, 3, 3), heaviestBoxes(), []int{9, 8, 7, 6, 5, 4, 3, 2, 1}}, []int{90, 90, 90}, nil, []int{9, 8, 7, 6, 5, 4, 3, 2, 1}},
		{loading{ship(2, 2, 2), weighing(1, 2, 4, 3, 6, 6, 7, 8), []int{1, 2, 3, 4, 6, 5, 7, 8}}, []int{3, 7, 12, 15}, []int{1, 7}, []int{2, 1, 3, 4, 6, 5, 8, 7}},
		// MaxBoxes boxes: 7 30 1, 1 30 20, 9 9 13 and 28 in the rows.
		{
			loading{ship(2, 2, 3), ten, []int{500, 999, 1, 2, 998, 17, 4, 40, 400, 50, 0, 0}}, []int{38, 51, 31, 28},
			[]int{1, 4, 8}, []int{999, 500, 1, 998, 17, 2, 400, 4, 40, 50, 0, 0},
		},
		{
			loading{ship(4, 1, 3), ten, []int{1, 2, 500, 40, 4, 0, 998, 999, 50, 17, 400, 0}}, []int{9, 18, 88, 33},
			[]int{2}, []int{500, 1, 2, 40, 4, 0, 998, 999, 50, 17, 400, 0},
		},
	}...)
}

func TestRowWeightsOfKnownPlans(t *testing.T) {
	for _, k := range knownLashings() {
		if got := k.rowWeights(); !slices.Equal(got, k.rows) {
			t.Errorf("RowWeights of %+v is %v, not %v", k.loading, got, k.rows)
		}
	}
}

func TestRowsBearOfKnownPlans(t *testing.T) {
	for _, k := range knownLashings() {
		heaviest := slices.Max(k.rows)
		for _, most := range append([]int{heaviest - 1, heaviest, heaviest + 1, 0}, boundsOfRows...) {
			if got := k.bears(most); got != (heaviest <= most) {
				t.Errorf("RowsBear of %+v, %d is %v, but the rows weigh %v", k.loading, most, got, k.rows)
			}
		}
	}
}

func TestOnLighterOfKnownPlans(t *testing.T) {
	for _, k := range knownLashings() {
		if got := k.onLighter(); !slices.Equal(got, k.lighter) {
			t.Errorf("OnLighter of %+v is %v, not %v", k.loading, got, k.lighter)
		}
	}
}

func TestSortRowsOfKnownPlans(t *testing.T) {
	for _, k := range knownLashings() {
		if got := k.sortRows(); !slices.Equal(got, k.sorted) {
			t.Errorf("SortRows of %+v is %v, not %v", k.loading, got, k.sorted)
		}
	}
}

// Of all plans every answer is held against the document.
func TestLashingOfValidPlans(t *testing.T) {
	for _, l := range lashings() {
		if got, want := l.rowWeights(), rowWeightsOf(l); !slices.Equal(got, want) {
			t.Fatalf("RowWeights of %+v is %v, not %v", l, got, want)
		}
		if got, want := l.onLighter(), onLighterOf(l); !slices.Equal(got, want) {
			t.Fatalf("OnLighter of %+v is %v, not %v", l, got, want)
		}
		if got, want := l.sortRows(), sortedOf(l); !slices.Equal(got, want) {
			t.Fatalf("SortRows of %+v is %v, not %v", l, got, want)
		}
	}
}

func TestP12SortedRowsAreSafe(t *testing.T) {
	changed, same := 0, 0
	for _, l := range lashings() {
		sorted := l.with(l.sortRows())
		if !sorted.valid() || !planIsValid(sorted) {
			t.Fatalf("SortRows of %+v is %v, which is not valid", l, sorted.plan)
		}
		if list := sorted.onLighter(); len(list) != 0 {
			t.Fatalf("SortRows of %+v is %v, and OnLighter of it is %v", l, sorted.plan, list)
		}
		if before, after := toldWeights(t, l), toldWeights(t, sorted); after != before {
			t.Fatalf("SortRows of %+v is %v: the weights were %+v, and are %+v", l, sorted.plan, before, after)
		}
		if again := sorted.sortRows(); !slices.Equal(again, sorted.plan) {
			t.Fatalf("SortRows of %+v is %v, and sorted again it is %v", l, sorted.plan, again)
		}
		// Only rows in which a box lies on a lighter one change.
		if slices.Equal(sorted.plan, l.plan) != (len(l.onLighter()) == 0) {
			t.Fatalf("SortRows of %+v is %v, but OnLighter is %v", l, sorted.plan, l.onLighter())
		}
		if slices.Equal(sorted.plan, l.plan) {
			same++
		} else {
			changed++
		}
	}
	if changed < 1000 || same < 1000 {
		t.Fatalf("%d plans change when they are sorted, %d stay the same", changed, same)
	}
}

func TestP12EveryRowHasTheSameBoxes(t *testing.T) {
	for _, l := range lashings() {
		sorted := l.with(l.sortRows())
		for _, row := range rowsOf(l.ship) {
			var before, after []int
			for _, slot := range row {
				before, after = append(before, l.plan[slot]), append(after, sorted.plan[slot])
			}
			slices.Sort(before)
			slices.Sort(after)
			if !slices.Equal(after, before) {
				t.Fatalf("SortRows of %+v is %v: a row had %v, and has %v", l, sorted.plan, before, after)
			}
		}
		if got, want := sorted.rowWeights(), l.rowWeights(); !slices.Equal(got, want) {
			t.Fatalf("SortRows of %+v is %v: the rows weighed %v, and weigh %v", l, sorted.plan, want, got)
		}
	}
}

func TestSortedRowsAreInTheOrderOfTheirWeights(t *testing.T) {
	equal, swapped := 0, 0
	for _, l := range lashings() {
		sorted := l.with(l.sortRows())
		for _, slot := range fullSlots(sorted) {
			for _, lower := range fullBelow(sorted, slot) {
				heavy, light := weightAt(sorted, lower), weightAt(sorted, slot)
				wasHigher := l.find(sorted.plan[lower]) > l.find(sorted.plan[slot])
				if heavy < light || heavy == light && wasHigher {
					t.Fatalf("SortRows of %+v is %v: %d lies on %d", l, sorted.plan, sorted.plan[slot], sorted.plan[lower])
				}
				if heavy == light {
					equal++
				}
				if wasHigher {
					swapped++
				}
			}
		}
	}
	if equal < 1000 || swapped < 1000 {
		t.Fatalf("%d boxes lie on one of equal weight, %d on one that was higher", equal, swapped)
	}
}

// Where all boxes weigh the same, every row is sorted already, in whatever order its boxes are.
func TestSortRowsOfEqualBoxes(t *testing.T) {
	for _, l := range lashings() {
		for _, weight := range []int{1, 5, 30} {
			equal := l.withWeight(weight)
			if got := equal.sortRows(); !slices.Equal(got, l.plan) {
				t.Fatalf("SortRows of %+v is %v", equal, got)
			}
		}
	}
}

func TestP89RowsAreTogetherTheLoad(t *testing.T) {
	for _, l := range lashings() {
		rows := l.rowWeights()
		if len(rows) != l.ship.Bays*l.ship.Rows {
			t.Fatalf("RowWeights of %+v has %d numbers", l, len(rows))
		}
		sum := 0
		for _, weight := range rows {
			sum += weight
		}
		if sum != l.load() || sum != weightsOf(l).load {
			t.Fatalf("RowWeights of %+v is %v, which are %d, but LoadOf is %d", l, rows, sum, l.load())
		}
	}
}

// Without one box only its own row is lighter.
func TestP89OneBoxLess(t *testing.T) {
	for _, l := range lashings() {
		rows := l.rowWeights()
		for _, slot := range fullSlots(l) {
			plan, id := l.take(slot)
			if id == -1 {
				continue
			}
			p := placeOf(l.ship, slot)
			want := slices.Clone(rows)
			want[p.bay*l.ship.Rows+p.row] -= weightAt(l, slot)
			if got := l.with(plan).rowWeights(); !slices.Equal(got, want) {
				t.Fatalf("RowWeights of %+v is %v, and without the box in %d it is %v, not %v", l, rows, slot, got, want)
			}
		}
	}
}

// In the mirror image the rows of each bay are in the other order, and so are the sorted ones.
func TestLashingOfMirrorImages(t *testing.T) {
	for _, l := range lashings() {
		image := l.mirrored()
		rows := l.rowWeights()
		for bay := range l.ship.Bays {
			slices.Reverse(rows[bay*l.ship.Rows : (bay+1)*l.ship.Rows])
		}
		if got := image.rowWeights(); !slices.Equal(got, rows) {
			t.Fatalf("RowWeights of %+v is %v, not %v", image, got, rows)
		}
		if got, want := image.sortRows(), l.with(l.sortRows()).mirrored().plan; !slices.Equal(got, want) {
			t.Fatalf("SortRows of %+v is %v, not %v", image, got, want)
		}
	}
}

func TestRowsBearTheHeaviestRowExactly(t *testing.T) {
	for _, l := range lashings() {
		rows := rowWeightsOf(l)
		heaviest := slices.Max(rows)
		for most := -2; most <= 92; most++ {
			if got := l.bears(most); got != (heaviest <= most) {
				t.Fatalf("RowsBear of %+v, %d is %v, but the rows weigh %v", l, most, got, rows)
			}
		}
		for _, most := range farBounds {
			if got := l.bears(most); got != (most > 0) {
				t.Fatalf("RowsBear of %+v, %d is %v, but the rows weigh %v", l, most, got, rows)
			}
		}
	}
}

// Rows without boxes weigh 0, which is borne by 0, but not by a number below it.
func TestRowsBearOfEmptyPlans(t *testing.T) {
	for _, h := range validShips() {
		for _, boxes := range [][]impl.Box{nil, manyBoxes()} {
			empty := loading{h, boxes, impl.PlanEmpty(h)}
			for _, most := range []int{0, 1, 90, math.MaxInt} {
				if !empty.bears(most) {
					t.Fatalf("RowsBear of %+v, %d does not hold", empty, most)
				}
			}
			for _, most := range []int{-1, -2, -90, math.MinInt} {
				if empty.bears(most) {
					t.Fatalf("RowsBear of %+v, %d holds", empty, most)
				}
			}
		}
	}
}

func TestP90LighterRowsAreBorneToo(t *testing.T) {
	taken := 0
	for _, l := range lashings() {
		heaviest := slices.Max(rowWeightsOf(l))
		for most := heaviest - 2; most <= heaviest+2; most++ {
			if !l.bears(most) {
				continue
			}
			for _, greater := range []int{most + 1, most + 2, most + 30, 91, 1 << 32, math.MaxInt} {
				if !l.bears(greater) {
					t.Fatalf("RowsBear of %+v holds for %d, but not for %d", l, most, greater)
				}
			}
			for slot := range l.plan {
				plan, id := l.take(slot)
				if id == -1 {
					continue
				}
				taken++
				if !l.with(plan).bears(most) {
					t.Fatalf("RowsBear of %+v, %d holds, but not without the box in %d", l, most, slot)
				}
			}
		}
	}
	if taken < 1000 {
		t.Fatalf("only %d boxes were taken", taken)
	}
}

// What is not borne is borne in the end, when one box after the other is taken from a row that is too heavy.
func TestP90UntilTheRowsAreLightEnough(t *testing.T) {
	for _, l := range lashings() {
		for _, most := range []int{0, 10, 40} {
			now := l
			for range fullSlots(l) {
				if now.bears(most) {
					break
				}
				row := rowsOf(l.ship)[slices.IndexFunc(now.rowWeights(), func(weight int) bool { return weight > most })]
				full := slices.DeleteFunc(slices.Clone(row), func(slot int) bool { return now.plan[slot] == 0 })
				plan, _ := now.take(full[len(full)-1])
				now = now.with(plan)
			}
			if !now.bears(most) || slices.Max(rowWeightsOf(now)) > most {
				t.Fatalf("RowsBear of %+v, %d is %v, but the rows weigh %v", now, most, now.bears(most), rowWeightsOf(now))
			}
		}
	}
}

func TestP91WhoLiesOnALighterBoxIsTold(t *testing.T) {
	some, none := 0, 0
	for _, l := range lashings() {
		list := l.onLighter()
		for i, slot := range list {
			if i > 0 && slot <= list[i-1] {
				t.Fatalf("OnLighter of %+v is %v", l, list)
			}
			if p := placeOf(l.ship, slot); p.tier == 0 {
				t.Fatalf("OnLighter of %+v is %v, but %d is the lowest slot of its row", l, list, slot)
			}
		}
		for slot := range l.plan {
			below := impl.SlotBelow(l.ship, slot)
			lighter := l.plan[slot] != 0 && below != -1 && weightAt(l, below) < weightAt(l, slot)
			if slices.Contains(list, slot) != lighter {
				t.Fatalf("OnLighter of %+v is %v, but of %d it is %v", l, list, slot, lighter)
			}
		}
		if len(list) > 0 {
			some++
		} else {
			none++
		}
	}
	if some < 1000 || none < 1000 {
		t.Fatalf("in %d plans boxes lie on lighter ones, in %d none do", some, none)
	}
}

func TestP91WithAllBoxesOfTheSameWeightThereAreNone(t *testing.T) {
	for _, l := range lashings() {
		for _, weight := range []int{1, 2, 5, 29, 30} {
			if list := l.withWeight(weight).onLighter(); len(list) != 0 {
				t.Fatalf("OnLighter of %+v is %v", l.withWeight(weight), list)
			}
		}
	}
}

// Boxes on the quay do not weigh on any row.
func TestLashingOfBoxesOnTheQuay(t *testing.T) {
	for _, l := range lashings() {
		for _, weight := range []int{1, 30} {
			boxes := slices.Clone(l.boxes)
			for i := range boxes {
				if !slices.Contains(l.plan, boxes[i].Id) {
					boxes[i].Weight = weight
				}
			}
			slices.Reverse(boxes)
			quay := l.withBoxes(boxes)
			if got, want := lashingAnswersOf(quay), lashingAnswersOf(l); !sameLashingAnswers(got, want) {
				t.Fatalf("the answers for %+v are %+v, not %+v", quay, got, want)
			}
		}
	}
}

// Ships of one tier are sorted already.
func TestLashingOfOneTier(t *testing.T) {
	for _, l := range lashings() {
		if l.ship.Tiers != 1 {
			continue
		}
		if list := l.onLighter(); len(list) != 0 {
			t.Fatalf("OnLighter of %+v is %v", l, list)
		}
		if got := l.sortRows(); !slices.Equal(got, l.plan) {
			t.Fatalf("SortRows of %+v is %v", l, got)
		}
	}
}

// otherLashings has otherLoadings, and plans in which one box, on the ship or on the quay, has a weight that is none.
func otherLashings() []loading {
	list := otherLoadings()
	two := loading{impl.Hull{Bays: 1, Rows: 1, Tiers: 3}, weighing(5, 9, 7), []int{1, 2, 0}}
	for at := range two.boxes {
		for _, weight := range []int{0, -1, -5, 31, 99, 5 + 1<<32, math.MaxInt, math.MinInt} {
			boxes := slices.Clone(two.boxes)
			boxes[at].Weight = weight
			list = append(list, two.withBoxes(boxes))
		}
	}
	return list
}

func TestLashingOfOtherPlans(t *testing.T) {
	for _, l := range otherLashings() {
		if got := l.rowWeights(); len(got) != 0 {
			t.Fatalf("RowWeights of %+v is %v", l, got)
		}
		if got := l.onLighter(); len(got) != 0 {
			t.Fatalf("OnLighter of %+v is %v", l, got)
		}
		if got := l.sortRows(); len(got) != 0 {
			t.Fatalf("SortRows of %+v is %v", l, got)
		}
		for _, most := range append([]int{0, 1, 30}, boundsOfRows...) {
			if l.bears(most) {
				t.Fatalf("RowsBear of %+v, %d holds", l, most)
			}
		}
	}
}

// lashingAnswers has all that is told of the rows of a plan.
type lashingAnswers struct {
	lists [3][]int
	bears [95]bool
}

func lashingAnswersOf(l loading) lashingAnswers {
	a := lashingAnswers{lists: [3][]int{l.rowWeights(), l.onLighter(), l.sortRows()}}
	for i := range a.bears {
		a.bears[i] = l.bears(i - 2)
	}
	return a
}

func sameLashingAnswers(a lashingAnswers, b lashingAnswers) bool {
	return a.bears == b.bears && slices.EqualFunc(a.lists[:], b.lists[:], slices.Equal)
}

// What is behind the end of the plan and of the boxes is read, too; and the answers are overwritten, so that memory shared with an argument shows.
func TestLashedPlansAreNotChanged(t *testing.T) {
	for _, l := range slices.Concat(fewLoadings(), smallLashings(), otherLashings()) {
		own, wholePlan, wholeBoxes := withRoom(l)
		ship := own.ship
		for _, list := range lashingAnswersOf(own).lists {
			overwrite(list)
		}
		if own.ship != ship || !slices.Equal(wholePlan, append(slices.Clone(l.plan), -7, -8, -9)) || !slices.Equal(wholeBoxes, append(slices.Clone(l.boxes), manyBoxes()...)) {
			t.Fatalf("%+v was changed to %+v, %v, %+v", l, own.ship, wholePlan, wholeBoxes)
		}
	}
}

// The answers of a first round are overwritten while those of a second one are read, and others are asked for in between.
func TestLashingKeepsNothingFromCallToCall(t *testing.T) {
	list := slices.Concat(fewLoadings(), grownLoadings(10), otherWeights())
	var first, second []lashingAnswers
	for _, l := range list {
		first = append(first, lashingAnswersOf(l))
	}
	for _, l := range list {
		second = append(second, lashingAnswersOf(l))
	}
	for i := len(list) - 1; i >= 0; i-- {
		if !sameLashingAnswers(second[i], first[i]) {
			t.Fatalf("the answers for %+v are %+v, and were %+v", list[i], second[i], first[i])
		}
		for j, answer := range first[i].lists {
			overwrite(answer)
			if !slices.EqualFunc(first[i].lists[j+1:], second[i].lists[j+1:], slices.Equal) {
				t.Fatalf("the answer %d for %+v shares memory with a later one", j, list[i])
			}
		}
		if again := lashingAnswersOf(list[i]); !sameLashingAnswers(again, second[i]) {
			t.Fatalf("the answers for %+v are %+v after the first ones were overwritten, not %+v", list[i], again, second[i])
		}
	}
}
