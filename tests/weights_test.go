package tests

import (
	"math"
	"slices"
	"testing"

	"loop.example/containerport/impl"
)

// farBounds are far from every heel and trim; some are small if what is above 32 bits is lost, and one has no positive counterpart.
var farBounds = []int{1000, 1 << 32, 1 + 1<<32, math.MaxInt - 1, math.MaxInt, -1000, -1 << 32, 1 - 1<<32, math.MinInt + 1, math.MinInt}

func (l loading) load() int {
	return impl.LoadOf(l.ship, l.boxes, l.plan)
}

func (l loading) heel() (int, bool) {
	return impl.HeelOf(l.ship, l.boxes, l.plan)
}

func (l loading) trim() (int, bool) {
	return impl.TrimOf(l.ship, l.boxes, l.plan)
}

func (l loading) steady(heel int, trim int) bool {
	return impl.Steady(l.ship, l.boxes, l.plan, heel, trim)
}

// mirrored has the rows of every bay in the other order.
func (l loading) mirrored() loading {
	return l.moved(func(p shipPlace) shipPlace { return shipPlace{p.bay, l.ship.Rows - 1 - p.row, p.tier} })
}

// turned has the bays in the other order.
func (l loading) turned() loading {
	return l.moved(func(p shipPlace) shipPlace { return shipPlace{l.ship.Bays - 1 - p.bay, p.row, p.tier} })
}

// moved has every box at another place, which no other box has.
func (l loading) moved(to func(shipPlace) shipPlace) loading {
	places := placesOf(l.ship)
	plan := make([]int, len(l.plan))
	for slot, id := range l.plan {
		plan[slices.Index(places, to(places[slot]))] = id
	}
	return l.with(plan)
}

// weights is what all boxes of a plan weigh, and how they heel and trim the ship.
type weights struct {
	load, heel, trim int
}

// weightsOf counts the weights of a valid plan as the document does in words: a box heels the ship to starboard for every row that there is on its port side, and to port side for every row on its starboard side; and likewise for bays.
func weightsOf(l loading) weights {
	var w weights
	for slot, p := range placesOf(l.ship) {
		for _, b := range l.boxes {
			if b.Id != l.plan[slot] {
				continue
			}
			w.load += b.Weight
			for row := range l.ship.Rows {
				if row < p.row {
					w.heel += b.Weight
				} else if row > p.row {
					w.heel -= b.Weight
				}
			}
			for bay := range l.ship.Bays {
				if bay < p.bay {
					w.trim += b.Weight
				} else if bay > p.bay {
					w.trim -= b.Weight
				}
			}
		}
	}
	return w
}

// toldWeights asks for the weights of a valid plan.
func toldWeights(t *testing.T, l loading) weights {
	t.Helper()
	heel, heelOk := l.heel()
	trim, trimOk := l.trim()
	if !heelOk || !trimOk {
		t.Fatalf("HeelOf and TrimOf of %+v are %v and %v", l, heelOk, trimOk)
	}
	return weights{l.load(), heel, trim}
}

// size is a number without its sign.
func size(number int) int {
	if number < 0 {
		return -number
	}
	return number
}

// weighedBoxes has three boxes of different weights.
func weighedBoxes() []impl.Box {
	return []impl.Box{{Id: 1, Weight: 5}, {Id: 2, Weight: 6}, {Id: 3, Weight: 7}}
}

// heaviestBoxes has MaxBoxes boxes that are as heavy as a box can be.
func heaviestBoxes() []impl.Box {
	boxes := numberedBoxes(10)
	for i := range boxes {
		boxes[i].Weight = 30
	}
	return boxes
}

// weighedLoadings has validLoadings, the same ships with the heaviest boxes, and all valid ones of the small plans with three weights.
func weighedLoadings() []loading {
	list := validLoadings()
	for i, h := range validShips() {
		next := numbersFrom(uint32(200 + i))
		boxes := heaviestBoxes()
		for _, heights := range heightsFor(h, next) {
			list = append(list, loading{h, boxes, planOf(h, heights, shuffled(idsOf(boxes), next))})
		}
	}
	for _, l := range allSmallPlans() {
		if planIsValid(l) {
			list = append(list, l.withBoxes(weighedBoxes()))
		}
	}
	return list
}

// knownWeight is a valid plan with its weights, counted by hand.
type knownWeight struct {
	loading
	want weights
}

func knownWeights() []knownWeight {
	three, ten, heavy := weighedBoxes(), manyBoxes(), heaviestBoxes()
	ship := func(bays int, rows int, tiers int) impl.Hull {
		return impl.Hull{Bays: bays, Rows: rows, Tiers: tiers}
	}
	return []knownWeight{
		{loading{ship(2, 2, 2), three, []int{1, 2, 3, 0, 0, 0, 0, 0}}, weights{18, -4, -18}},
		{loading{ship(2, 2, 2), three, []int{0, 0, 0, 0, 3, 0, 1, 2}}, weights{18, 4, 18}},
		// One slot, where nothing heels or trims.
		{loading{oneSlot, three, []int{1}}, weights{5, 0, 0}},
		{loading{oneSlot, three, []int{3}}, weights{7, 0, 0}},
		{loading{oneSlot, heavy, []int{10}}, weights{30, 0, 0}},
		// No boxes on the ship.
		{loading{oneSlot, three, []int{0}}, weights{}},
		{loading{oneSlot, nil, []int{0}}, weights{}},
		{loading{ship(2, 2, 2), three, make([]int, 8)}, weights{}},
		{loading{mostSlots, ten, make([]int, 36)}, weights{}},
		{loading{mostSlots, nil, make([]int, 36)}, weights{}},
		// Two rows: the middle is between them.
		{loading{ship(1, 2, 1), three, []int{1, 2}}, weights{11, 1, 0}},
		{loading{ship(1, 2, 1), three, []int{2, 1}}, weights{11, -1, 0}},
		{loading{ship(1, 2, 1), three, []int{3, 0}}, weights{7, -7, 0}},
		{loading{ship(1, 2, 1), three, []int{0, 3}}, weights{7, 7, 0}},
		{loading{ship(1, 2, 1), ten, []int{4, 40}}, weights{18, 0, 0}},
		// Three rows: the middle is one of them.
		{loading{ship(1, 3, 1), three, []int{1, 2, 3}}, weights{18, 4, 0}},
		{loading{ship(1, 3, 1), three, []int{0, 2, 0}}, weights{6, 0, 0}},
		{loading{ship(1, 3, 1), three, []int{1, 0, 0}}, weights{5, -10, 0}},
		{loading{ship(1, 3, 1), three, []int{0, 0, 1}}, weights{5, 10, 0}},
		{loading{ship(1, 3, 1), ten, []int{4, 999, 40}}, weights{48, 0, 0}},
		// Two, three and four bays.
		{loading{ship(2, 1, 1), three, []int{1, 2}}, weights{11, 0, 1}},
		{loading{ship(2, 1, 1), three, []int{3, 0}}, weights{7, 0, -7}},
		{loading{ship(3, 1, 1), three, []int{3, 2, 1}}, weights{18, 0, -4}},
		{loading{ship(3, 1, 1), three, []int{0, 2, 0}}, weights{6, 0, 0}},
		{loading{ship(3, 1, 1), three, []int{0, 0, 2}}, weights{6, 0, 12}},
		{loading{ship(4, 1, 1), three, []int{1, 2, 3, 0}}, weights{18, 0, -14}},
		{loading{ship(4, 1, 1), three, []int{0, 1, 0, 2}}, weights{11, 0, 13}},
		{loading{ship(4, 1, 1), three, []int{0, 0, 1, 0}}, weights{5, 0, 5}},
		// Rows and bays are counted each for itself.
		{loading{ship(2, 3, 1), three, []int{1, 0, 0, 0, 0, 2}}, weights{11, 2, 1}},
		{loading{ship(3, 2, 1), three, []int{1, 0, 0, 0, 0, 2}}, weights{11, 1, 2}},
		{loading{ship(2, 2, 1), ten, []int{4, 0, 0, 40}}, weights{18, 0, 0}},
		{loading{ship(2, 2, 1), ten, []int{4, 40, 0, 0}}, weights{18, 0, -18}},
		{loading{ship(2, 2, 1), ten, []int{4, 0, 40, 0}}, weights{18, -18, 0}},
		// The middle row and the middle bay of a ship that has both.
		{loading{ship(3, 3, 1), three, []int{0, 0, 0, 0, 3, 0, 0, 0, 0}}, weights{7, 0, 0}},
		{loading{ship(3, 3, 1), three, []int{0, 3, 0, 0, 0, 0, 0, 0, 0}}, weights{7, 0, -14}},
		{loading{ship(3, 3, 1), three, []int{0, 0, 0, 3, 0, 0, 0, 0, 0}}, weights{7, -14, 0}},
		// The tier does not matter.
		{loading{ship(1, 2, 2), three, []int{1, 2, 0, 0}}, weights{11, -11, 0}},
		{loading{ship(1, 2, 2), three, []int{2, 1, 3, 0}}, weights{18, -4, 0}},
		{loading{ship(1, 1, 3), three, []int{3, 1, 2}}, weights{18, 0, 0}},
		{loading{ship(4, 1, 3), three, []int{0, 0, 0, 0, 0, 0, 0, 0, 0, 1, 2, 3}}, weights{18, 0, 54}},
		{loading{ship(4, 1, 3), three, []int{1, 2, 3, 0, 0, 0, 0, 0, 0, 0, 0, 0}}, weights{18, 0, -54}},
		// Full ships.
		{loading{ship(1, 2, 2), heavy, []int{1, 2, 3, 4}}, weights{120, 0, 0}},
		{loading{ship(2, 1, 2), ten, []int{500, 999, 1, 2}}, weights{39, 0, -35}},
		{loading{ship(1, 3, 3), heavy, []int{9, 8, 7, 6, 5, 4, 3, 2, 1}}, weights{270, 0, 0}},
		// MaxBoxes boxes.
		{loading{ship(4, 3, 1), ten, []int{0, 500, 999, 1, 2, 998, 17, 4, 40, 400, 50, 0}}, weights{148, 70, 18}},
		{loading{ship(4, 1, 3), heavy, []int{1, 2, 3, 4, 5, 6, 7, 8, 9, 10, 0, 0}}, weights{300, 0, -180}},
		{loading{ship(2, 2, 3), heavy, []int{0, 0, 0, 1, 2, 3, 4, 5, 6, 7, 8, 9}}, weights{270, 90, 90}},
		{loading{ship(1, 3, 3), heavy, []int{10, 9, 8, 0, 0, 0, 0, 0, 0}}, weights{90, -180, 0}},
	}
}

// otherWeights has arguments for which there are no weights.
func otherWeights() []loading {
	four := loading{impl.Hull{Bays: 1, Rows: 2, Tiers: 2}, weighedBoxes(), []int{1, 2, 3, 0}}
	twice := append(weighedBoxes(), impl.Box{Id: 3, Weight: 7})
	return []loading{
		// Plans that are not valid.
		four.with(nil),
		four.with([]int{1, 2, 3}),
		four.with([]int{1, 2, 3, 0, 0}),
		four.with([]int{0, 2, 3, 0}),
		four.with([]int{1, 1, 3, 0}),
		four.with([]int{1, 4, 3, 0}),
		four.with([]int{1, -1, 3, 0}),
		// Boxes that are not valid, also where the plan needs none of them.
		four.withBoxes(nil),
		four.withBoxes(twice),
		four.withBoxes(append(weighedBoxes(), impl.Box{Id: 3, Weight: 8})),
		four.withBoxes(append(weighedBoxes(), impl.Box{Id: 4})),
		four.withBoxes(append(weighedBoxes(), impl.Box{Id: 4, Weight: 31})),
		four.withBoxes(append(weighedBoxes(), impl.Box{})),
		four.withBoxes(numberedBoxes(11)),
		four.with(make([]int, 4)).withBoxes(twice),
		four.with(make([]int, 4)).withBoxes(numberedBoxes(11)),
		// Ships that are not valid.
		{impl.Hull{}, weighedBoxes(), nil},
		{impl.Hull{}, nil, nil},
		{impl.Hull{}, weighedBoxes(), []int{1}},
		{impl.Hull{Bays: 5, Rows: 1, Tiers: 1}, weighedBoxes(), []int{1, 0, 0, 0, 2}},
		{impl.Hull{Bays: 1, Rows: 4, Tiers: 1}, weighedBoxes(), []int{1, 0, 0, 2}},
		{impl.Hull{Bays: 1, Rows: 1, Tiers: 4}, weighedBoxes(), []int{1, 2, 3, 0}},
		{impl.Hull{Bays: -1, Rows: -1, Tiers: 1}, weighedBoxes(), []int{1}},
	}
}

func TestLoadOfKnownPlans(t *testing.T) {
	for _, k := range knownWeights() {
		if got := k.load(); got != k.want.load {
			t.Errorf("LoadOf of %+v is %d, not %d", k.loading, got, k.want.load)
		}
	}
}

func TestLoadOfOtherPlans(t *testing.T) {
	for _, l := range append(otherWeights(), invalidLoadings()...) {
		if got := l.load(); got != -1 {
			t.Fatalf("LoadOf of %+v is %d, not -1", l, got)
		}
	}
}

func TestP75AllBoxesWeigh(t *testing.T) {
	for _, l := range weighedLoadings() {
		load := l.load()
		if want := impl.WeightOf(l.boxes, l.ids()); load != want || load != weightsOf(l).load {
			t.Fatalf("LoadOf of %+v is %d, not %d", l, load, want)
		}
		for slot, id := range l.plan {
			after, taken := l.take(slot)
			if taken == -1 {
				continue
			}
			weight := l.boxes[slices.Index(idsOf(l.boxes), id)].Weight
			if got := l.with(after).load(); got != load-weight {
				t.Fatalf("LoadOf of %+v is %d, and without %d, which weighs %d, it is %d", l, load, id, weight, got)
			}
		}
	}
}

func TestHeelOfKnownPlans(t *testing.T) {
	for _, k := range knownWeights() {
		if got, ok := k.heel(); got != k.want.heel || !ok {
			t.Errorf("HeelOf of %+v is %d, %v, not %d", k.loading, got, ok, k.want.heel)
		}
	}
}

func TestHeelOfOtherPlans(t *testing.T) {
	for _, l := range append(otherWeights(), invalidLoadings()...) {
		if got, ok := l.heel(); got != 0 || ok {
			t.Fatalf("HeelOf of %+v is %d, %v", l, got, ok)
		}
	}
}

func TestP76TheMirrorImageHeelsToTheOtherSide(t *testing.T) {
	for _, l := range weighedLoadings() {
		told, want := toldWeights(t, l), weightsOf(l)
		if told.heel != want.heel {
			t.Fatalf("HeelOf of %+v is %d, not %d", l, told.heel, want.heel)
		}
		image := toldWeights(t, l.mirrored())
		if image.heel != -told.heel || image.trim != told.trim {
			t.Fatalf("%+v has the weights %+v, and the mirror image has %+v", l, told, image)
		}
	}
}

// A box that is alone on the ship shows what its row counts.
func TestHeelOfOneBoxInEveryRow(t *testing.T) {
	for _, h := range validShips() {
		halves := map[int][]int{1: {0}, 2: {-1, 1}, 3: {-2, 0, 2}}[h.Rows]
		for _, b := range manyBoxes() {
			for slot, p := range placesOf(h) {
				if p.tier != 0 {
					continue
				}
				l := loading{h, manyBoxes(), make([]int, len(placesOf(h)))}.withSlot(slot, b.Id)
				if got, ok := l.heel(); got != b.Weight*halves[p.row] || !ok {
					t.Fatalf("HeelOf of %+v is %d, %v, not %d", l, got, ok, b.Weight*halves[p.row])
				}
			}
		}
	}
}

func TestTrimOfKnownPlans(t *testing.T) {
	for _, k := range knownWeights() {
		if got, ok := k.trim(); got != k.want.trim || !ok {
			t.Errorf("TrimOf of %+v is %d, %v, not %d", k.loading, got, ok, k.want.trim)
		}
	}
}

func TestTrimOfOtherPlans(t *testing.T) {
	for _, l := range append(otherWeights(), invalidLoadings()...) {
		if got, ok := l.trim(); got != 0 || ok {
			t.Fatalf("TrimOf of %+v is %d, %v", l, got, ok)
		}
	}
}

func TestP77TurnedRoundTheShipTrimsToTheOtherEnd(t *testing.T) {
	for _, l := range weighedLoadings() {
		told, want := toldWeights(t, l), weightsOf(l)
		if told.trim != want.trim {
			t.Fatalf("TrimOf of %+v is %d, not %d", l, told.trim, want.trim)
		}
		other := toldWeights(t, l.turned())
		if other.trim != -told.trim || other.heel != told.heel {
			t.Fatalf("%+v has the weights %+v, and turned round it has %+v", l, told, other)
		}
		if most := told.load * (l.ship.Bays - 1); size(told.trim) > most {
			t.Fatalf("TrimOf of %+v is %d, but the load of %d can trim by %d at most", l, told.trim, told.load, most)
		}
	}
}

// A ship that is loaded at one end only trims as much as its load can.
func TestP77TheGreatestTrims(t *testing.T) {
	for _, h := range validShips() {
		for _, boxes := range [][]impl.Box{manyBoxes(), heaviestBoxes()} {
			heights := make([]int, h.Bays*h.Rows)
			for row := range h.Rows {
				heights[row] = h.Tiers
			}
			l := loading{h, boxes, planOf(h, heights, idsOf(boxes))}
			most := l.load() * (h.Bays - 1)
			if got := toldWeights(t, l).trim; got != -most {
				t.Errorf("TrimOf of %+v is %d, not %d", l, got, -most)
			}
			if got := toldWeights(t, l.turned()).trim; got != most {
				t.Errorf("TrimOf of %+v is %d, not %d", l.turned(), got, most)
			}
		}
	}
}

// A box that is alone on the ship shows what its bay counts.
func TestTrimOfOneBoxInEveryBay(t *testing.T) {
	for _, h := range validShips() {
		halves := map[int][]int{1: {0}, 2: {-1, 1}, 3: {-2, 0, 2}, 4: {-3, -1, 1, 3}}[h.Bays]
		for _, b := range manyBoxes() {
			for slot, p := range placesOf(h) {
				if p.tier != 0 {
					continue
				}
				l := loading{h, manyBoxes(), make([]int, len(placesOf(h)))}.withSlot(slot, b.Id)
				if got, ok := l.trim(); got != b.Weight*halves[p.bay] || !ok {
					t.Fatalf("TrimOf of %+v is %d, %v, not %d", l, got, ok, b.Weight*halves[p.bay])
				}
			}
		}
	}
}

func TestSteadyOfKnownPlans(t *testing.T) {
	// A heel of -4 and a trim of -18, of 4 and 18, of 2 and -18, and of 0 and 0.
	port := loading{impl.Hull{Bays: 2, Rows: 2, Tiers: 2}, weighedBoxes(), []int{1, 2, 3, 0, 0, 0, 0, 0}}
	board := port.with([]int{0, 0, 0, 0, 3, 0, 1, 2})
	mixed := loading{impl.Hull{Bays: 2, Rows: 3, Tiers: 1}, weighedBoxes(), []int{1, 3, 2, 0, 0, 0}}
	still := loading{impl.Hull{Bays: 2, Rows: 2, Tiers: 1}, manyBoxes(), []int{4, 0, 0, 40}}
	for _, k := range []struct {
		loading
		heel, trim int
		want       bool
	}{
		// Both bounds met exactly, one missed by 1, and both.
		{port, 4, 18, true},
		{port, 3, 18, false},
		{port, 4, 17, false},
		{port, 3, 17, false},
		{board, 4, 18, true},
		{board, 3, 18, false},
		{board, 4, 17, false},
		{mixed, 2, 18, true},
		{mixed, 1, 18, false},
		{mixed, 2, 17, false},
		{still, 0, 0, true},
		// Wider ones.
		{port, 5, 18, true},
		{port, 4, 19, true},
		{port, 99, 99, true},
		{port, math.MaxInt, math.MaxInt, true},
		{board, math.MaxInt, 18, true},
		{still, 1, 0, true},
		{still, 0, 1, true},
		// One that is wide does not make up for the other one, and they are not exchanged.
		{port, 99, 17, false},
		{port, 3, 99, false},
		{port, 18, 4, false},
		{board, math.MaxInt, 17, false},
		{board, 3, math.MaxInt, false},
		// A bound of 0, where there is a heel or a trim.
		{port, 0, 0, false},
		{port, 0, 18, false},
		{port, 4, 0, false},
		// Below 0: the bounds keep their signs.
		{port, -4, -18, false},
		{port, -4, 18, false},
		{port, 4, -18, false},
		{board, -4, -18, false},
		{board, -5, 18, false},
		{port, math.MinInt, math.MinInt, false},
		{port, 4, math.MinInt, false},
		{still, -1, 0, false},
		{still, 0, -1, false},
		{still, -1, -1, false},
		{still, math.MinInt, 0, false},
		{still, 0, math.MinInt, false},
		// No boxes on the ship, and one slot.
		{port.with(make([]int, 8)), 0, 0, true},
		{port.with(make([]int, 8)), -1, 0, false},
		{port.with(make([]int, 8)), 0, -1, false},
		{loading{oneSlot, heaviestBoxes(), []int{1}}, 0, 0, true},
		{loading{oneSlot, heaviestBoxes(), []int{1}}, -1, 0, false},
		{loading{oneSlot, nil, []int{0}}, 0, 0, true},
		{loading{oneSlot, nil, []int{0}}, 0, -1, false},
	} {
		if got := k.steady(k.heel, k.trim); got != k.want {
			t.Errorf("Steady of %+v, %d, %d is %v", k.loading, k.heel, k.trim, got)
		}
	}
}

// Each bound is met exactly, missed and surpassed by some, 0, below 0, and far.
func TestSteadyAboutEveryBound(t *testing.T) {
	for _, l := range weighedLoadings() {
		want := weightsOf(l)
		heel, trim := size(want.heel), size(want.trim)
		for _, most := range append([]int{heel, heel - 1, heel + 1, heel - 30, heel + 30, 0, -1, -heel, -heel - 1}, farBounds...) {
			for _, far := range append([]int{trim, trim - 1, trim + 1, trim - 30, trim + 30, 0, -1, -trim, -trim - 1}, farBounds...) {
				if got := l.steady(most, far); got != (heel <= most && trim <= far) {
					t.Fatalf("Steady of %+v, %d, %d is %v, but the weights are %+v", l, most, far, got, want)
				}
			}
		}
	}
}

func TestP78BoundsMayBeWider(t *testing.T) {
	for _, l := range weighedLoadings() {
		told := toldWeights(t, l)
		image := l.mirrored()
		for heel := size(told.heel) - 2; heel <= size(told.heel)+2; heel++ {
			for trim := size(told.trim) - 2; trim <= size(told.trim)+2; trim++ {
				steady := l.steady(heel, trim)
				if image.steady(heel, trim) != steady {
					t.Fatalf("Steady of %+v, %d, %d is %v, but not that of the mirror image", l, heel, trim, steady)
				}
				if !steady {
					continue
				}
				for _, wider := range [][2]int{{heel + 1, trim}, {heel, trim + 1}, {heel + 7, trim + 9}, {heel, math.MaxInt}, {math.MaxInt, trim}} {
					if !l.steady(wider[0], wider[1]) {
						t.Fatalf("Steady of %+v holds for %d, %d, but not for %v", l, heel, trim, wider)
					}
				}
			}
		}
		if heel, trim := size(told.heel), size(told.trim); !l.steady(heel, trim) || l.steady(heel-1, trim) || l.steady(heel, trim-1) {
			t.Fatalf("Steady of %+v does not hold for %d, %d alone", l, heel, trim)
		}
	}
}

func TestSteadyOfOtherPlans(t *testing.T) {
	for _, l := range append(otherWeights(), invalidLoadings()...) {
		for _, bound := range []int{0, 1, 99, math.MaxInt, -1, math.MinInt} {
			if l.steady(bound, bound) || l.steady(bound, 99) || l.steady(99, bound) {
				t.Fatalf("Steady of %+v holds for %d", l, bound)
			}
		}
	}
}

// weightAnswers has all that is told of the weights of a plan.
type weightAnswers struct {
	load   int
	heel   int
	heelOk bool
	trim   int
	trimOk bool
	steady [3]bool
}

func weightAnswersOf(l loading) weightAnswers {
	heel, heelOk := l.heel()
	trim, trimOk := l.trim()
	return weightAnswers{l.load(), heel, heelOk, trim, trimOk, [3]bool{l.steady(0, 0), l.steady(size(heel), size(trim)), l.steady(99, 99)}}
}

func TestWeighedPlansAreNotChanged(t *testing.T) {
	for _, l := range slices.Concat(fewLoadings(), otherWeights(), invalidLoadings()) {
		own, wholePlan, wholeBoxes := withRoom(l)
		ship := own.ship
		weightAnswersOf(own)
		if own.ship != ship || !slices.Equal(wholePlan, append(slices.Clone(l.plan), -7, -8, -9)) || !slices.Equal(wholeBoxes, append(slices.Clone(l.boxes), manyBoxes()...)) {
			t.Fatalf("%+v was changed to %+v, %v, %+v", l, own.ship, wholePlan, wholeBoxes)
		}
	}
}

func TestWeightsKeepNothingFromCallToCall(t *testing.T) {
	list := append(weighedLoadings(), otherWeights()...)
	var first []weightAnswers
	for _, l := range list {
		first = append(first, weightAnswersOf(l))
	}
	for i := len(list) - 1; i >= 0; i-- {
		if got := weightAnswersOf(list[i]); got != first[i] {
			t.Fatalf("the answers for %+v are %+v, and were %+v", list[i], got, first[i])
		}
	}
}
