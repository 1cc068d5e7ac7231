package tests

import (
	"math"
	"testing"

	"loop.example/containerport/impl"
)

// shipPlace is a place on a ship.
type shipPlace struct {
	bay, row, tier int
}

// noPlace is what PlaceOf returns where there is no slot.
var noPlace = shipPlace{-1, -1, -1}

// oneSlot is the smallest ship, and mostSlots the greatest one.
var (
	oneSlot   = impl.Hull{Bays: 1, Rows: 1, Tiers: 1}
	mostSlots = impl.Hull{Bays: 4, Rows: 3, Tiers: 3}
)

// farNumbers are far outside all bounds; some are 0, 1 or 2 if what is above 32 bits is lost.
var farNumbers = []int{-100, 100, 1 << 32, 1 + 1<<32, 2 + 1<<32, 1 - 1<<32, -1 << 32, 1 << 62, math.MinInt, math.MaxInt, math.MinInt + 1, math.MaxInt - 1, math.MinInt + 2}

// validShips has all ships that are valid.
func validShips() []impl.Hull {
	var list []impl.Hull
	for bays := 1; bays <= 4; bays++ {
		for rows := 1; rows <= 3; rows++ {
			for tiers := 1; tiers <= 3; tiers++ {
				list = append(list, impl.Hull{Bays: bays, Rows: rows, Tiers: tiers})
			}
		}
	}
	return list
}

// wrongNumbers has numbers that cannot be those of the bays, rows or tiers of a ship with at most so many: 0, those just below it and just above the greatest one, and far ones.
func wrongNumbers(most int) []int {
	list := []int{0, -1, -2, -most, most + 1, most + 2, 2 * most, most + 1<<32, most - 1<<32}
	return append(list, farNumbers...)
}

// invalidShips has ships with one, two and three wrong numbers.
func invalidShips() []impl.Hull {
	list := []impl.Hull{{}, {Bays: -1, Rows: -1, Tiers: 1}, {Bays: -2, Rows: -3, Tiers: 2}, {Bays: 3, Rows: -2, Tiers: -3}, {Bays: 3, Rows: 4, Tiers: 4}, {Bays: 5, Rows: 3, Tiers: 3}}
	for _, h := range validShips() {
		for _, bays := range wrongNumbers(4) {
			list = append(list, impl.Hull{Bays: bays, Rows: h.Rows, Tiers: h.Tiers})
		}
		for _, rows := range wrongNumbers(3) {
			list = append(list, impl.Hull{Bays: h.Bays, Rows: rows, Tiers: h.Tiers})
		}
		for _, tiers := range wrongNumbers(3) {
			list = append(list, impl.Hull{Bays: h.Bays, Rows: h.Rows, Tiers: tiers})
		}
	}
	for i, number := range wrongNumbers(4) {
		other := wrongNumbers(4)[len(wrongNumbers(4))-1-i]
		list = append(list, impl.Hull{Bays: number, Rows: other, Tiers: 1}, impl.Hull{Bays: 1, Rows: number, Tiers: other}, impl.Hull{Bays: number, Rows: 1, Tiers: other}, impl.Hull{Bays: number, Rows: number, Tiers: other})
	}
	return list
}

// placesOf counts the places of a ship through, bay by bay, in each row by row, and in each tier by tier: the index of a place is its slot.
func placesOf(h impl.Hull) []shipPlace {
	var list []shipPlace
	for bay := range h.Bays {
		for row := range h.Rows {
			for tier := range h.Tiers {
				list = append(list, shipPlace{bay, row, tier})
			}
		}
	}
	return list
}

// noSlots has numbers that are not slots of a ship with so many of them.
func noSlots(many int) []int {
	list := []int{-1, -2, -many, -many - 1, many, many + 1, many + 2, 2 * many, many*4 - 1, many * 4, many - 1 + 1<<32, -1 + 1<<32}
	for _, far := range farNumbers {
		if far < 0 || far >= many {
			list = append(list, far)
		}
	}
	return list
}

// placeOf returns the three results of PlaceOf as one.
func placeOf(h impl.Hull, slot int) shipPlace {
	bay, row, tier := impl.PlaceOf(h, slot)
	return shipPlace{bay, row, tier}
}

func slotOf(h impl.Hull, p shipPlace) int {
	return impl.SlotOf(h, p.bay, p.row, p.tier)
}

func TestConstantsOfShips(t *testing.T) {
	if impl.MaxBays != 4 || impl.MaxRows != 3 || impl.MaxTiers != 3 {
		t.Errorf("MaxBays, MaxRows and MaxTiers are %d, %d and %d", impl.MaxBays, impl.MaxRows, impl.MaxTiers)
	}
}

func TestHullValidOfKnownShips(t *testing.T) {
	for _, k := range []struct {
		ship impl.Hull
		want bool
	}{
		{oneSlot, true},
		{mostSlots, true},
		{impl.Hull{Bays: 2, Rows: 3, Tiers: 2}, true},
		{impl.Hull{Bays: 4, Rows: 1, Tiers: 1}, true},
		{impl.Hull{Bays: 1, Rows: 3, Tiers: 1}, true},
		{impl.Hull{Bays: 1, Rows: 1, Tiers: 3}, true},
		{impl.Hull{Bays: 1, Rows: 3, Tiers: 3}, true},
		{impl.Hull{Bays: 4, Rows: 1, Tiers: 3}, true},
		{impl.Hull{Bays: 4, Rows: 3, Tiers: 1}, true},
		{impl.Hull{}, false},
		{impl.Hull{Bays: 0, Rows: 1, Tiers: 1}, false},
		{impl.Hull{Bays: 1, Rows: 0, Tiers: 1}, false},
		{impl.Hull{Bays: 1, Rows: 1, Tiers: 0}, false},
		{impl.Hull{Bays: -1, Rows: 1, Tiers: 1}, false},
		{impl.Hull{Bays: 1, Rows: -1, Tiers: 1}, false},
		{impl.Hull{Bays: 1, Rows: 1, Tiers: -1}, false},
		{impl.Hull{Bays: 5, Rows: 3, Tiers: 3}, false},
		{impl.Hull{Bays: 4, Rows: 4, Tiers: 3}, false},
		{impl.Hull{Bays: 4, Rows: 3, Tiers: 4}, false},
		// The greatest numbers, but not in their places.
		{impl.Hull{Bays: 3, Rows: 4, Tiers: 3}, false},
		{impl.Hull{Bays: 3, Rows: 3, Tiers: 4}, false},
	} {
		if got := impl.HullValid(k.ship); got != k.want {
			t.Errorf("HullValid of %+v is %v", k.ship, got)
		}
	}
}

func TestHullValidAboutEveryBound(t *testing.T) {
	for bays := -3; bays <= 8; bays++ {
		for rows := -3; rows <= 8; rows++ {
			for tiers := -3; tiers <= 8; tiers++ {
				h := impl.Hull{Bays: bays, Rows: rows, Tiers: tiers}
				want := bays > 0 && bays < 5 && rows > 0 && rows < 4 && tiers > 0 && tiers < 4
				if got := impl.HullValid(h); got != want {
					t.Errorf("HullValid of %+v is %v", h, got)
				}
			}
		}
	}
}

func TestHullValidOfOtherShips(t *testing.T) {
	for _, h := range invalidShips() {
		if impl.HullValid(h) {
			t.Errorf("%+v is valid", h)
		}
	}
}

func TestP63ShipsMayBeSmaller(t *testing.T) {
	for _, h := range validShips() {
		for _, smaller := range []impl.Hull{
			h,
			{Bays: 1, Rows: h.Rows, Tiers: h.Tiers},
			{Bays: h.Bays, Rows: 1, Tiers: h.Tiers},
			{Bays: h.Bays, Rows: h.Rows, Tiers: 1},
			{Bays: 1, Rows: 1, Tiers: h.Tiers},
			{Bays: 1, Rows: h.Rows, Tiers: 1},
			{Bays: h.Bays, Rows: 1, Tiers: 1},
			oneSlot,
		} {
			if !impl.HullValid(smaller) {
				t.Errorf("%+v is not valid, but %+v is", smaller, h)
			}
		}
		for _, without := range []impl.Hull{
			{Bays: 0, Rows: h.Rows, Tiers: h.Tiers},
			{Bays: h.Bays, Rows: 0, Tiers: h.Tiers},
			{Bays: h.Bays, Rows: h.Rows, Tiers: 0},
		} {
			if impl.HullValid(without) {
				t.Errorf("%+v is valid", without)
			}
		}
	}
}

func TestSlotManyOfKnownShips(t *testing.T) {
	for _, k := range []struct {
		ship impl.Hull
		want int
	}{
		{oneSlot, 1},
		{mostSlots, 36},
		{impl.Hull{Bays: 2, Rows: 3, Tiers: 2}, 12},
		{impl.Hull{Bays: 4, Rows: 1, Tiers: 1}, 4},
		{impl.Hull{Bays: 1, Rows: 3, Tiers: 1}, 3},
		{impl.Hull{Bays: 1, Rows: 1, Tiers: 2}, 2},
		{impl.Hull{Bays: 1, Rows: 3, Tiers: 2}, 6},
		{impl.Hull{Bays: 4, Rows: 1, Tiers: 3}, 12},
		{impl.Hull{Bays: 4, Rows: 2, Tiers: 1}, 8},
		{impl.Hull{}, -1},
		{impl.Hull{Bays: 2, Rows: 3}, -1},
		{impl.Hull{Bays: -2, Rows: -3, Tiers: 2}, -1},
		{impl.Hull{Bays: 5, Rows: 1, Tiers: 1}, -1},
		{impl.Hull{Bays: 1, Rows: 4, Tiers: 1}, -1},
		{impl.Hull{Bays: 1, Rows: 1, Tiers: 4}, -1},
	} {
		if got := impl.SlotMany(k.ship); got != k.want {
			t.Errorf("SlotMany of %+v is %d, not %d", k.ship, got, k.want)
		}
	}
}

func TestP64EverySlotHasItsPlace(t *testing.T) {
	for _, h := range validShips() {
		many := impl.SlotMany(h)
		if want := len(placesOf(h)); many != want {
			t.Fatalf("SlotMany of %+v is %d, not %d", h, many, want)
		}
		for slot := -2 * many; slot <= 4*many; slot++ {
			got := placeOf(h, slot)
			if is := slot >= 0 && slot < many; is == (got == noPlace) {
				t.Errorf("of %d slots of %+v, PlaceOf %d is %v", many, h, slot, got)
			}
		}
		for _, slot := range noSlots(many) {
			if got := placeOf(h, slot); got != noPlace {
				t.Errorf("of %d slots of %+v, PlaceOf %d is %v", many, h, slot, got)
			}
		}
	}
}

func TestSlotManyOfOtherShips(t *testing.T) {
	for _, h := range invalidShips() {
		if got := impl.SlotMany(h); got != -1 {
			t.Errorf("SlotMany of %+v is %d, not -1", h, got)
		}
	}
}

func TestSlotOfKnownPlaces(t *testing.T) {
	ship := impl.Hull{Bays: 2, Rows: 3, Tiers: 2}
	for _, k := range []struct {
		ship  impl.Hull
		place shipPlace
		want  int
	}{
		// The first and the last place, and every one between them.
		{ship, shipPlace{0, 0, 0}, 0},
		{ship, shipPlace{0, 0, 1}, 1},
		{ship, shipPlace{0, 1, 0}, 2},
		{ship, shipPlace{0, 1, 1}, 3},
		{ship, shipPlace{0, 2, 0}, 4},
		{ship, shipPlace{0, 2, 1}, 5},
		{ship, shipPlace{1, 0, 0}, 6},
		{ship, shipPlace{1, 0, 1}, 7},
		{ship, shipPlace{1, 1, 0}, 8},
		{ship, shipPlace{1, 1, 1}, 9},
		{ship, shipPlace{1, 2, 0}, 10},
		{ship, shipPlace{1, 2, 1}, 11},
		// One too many of each, and one too few.
		{ship, shipPlace{2, 0, 0}, -1},
		{ship, shipPlace{0, 3, 0}, -1},
		{ship, shipPlace{0, 0, 2}, -1},
		{ship, shipPlace{-1, 2, 1}, -1},
		{ship, shipPlace{1, -1, 1}, -1},
		{ship, shipPlace{1, 2, -1}, -1},
		{ship, noPlace, -1},
		// One slot, and one bay, row or tier.
		{oneSlot, shipPlace{0, 0, 0}, 0},
		{oneSlot, shipPlace{1, 0, 0}, -1},
		{oneSlot, shipPlace{0, 1, 0}, -1},
		{oneSlot, shipPlace{0, 0, 1}, -1},
		{oneSlot, shipPlace{-1, 0, 0}, -1},
		{oneSlot, shipPlace{0, -1, 0}, -1},
		{oneSlot, shipPlace{0, 0, -1}, -1},
		{impl.Hull{Bays: 1, Rows: 3, Tiers: 2}, shipPlace{0, 2, 1}, 5},
		{impl.Hull{Bays: 4, Rows: 1, Tiers: 2}, shipPlace{3, 0, 1}, 7},
		{impl.Hull{Bays: 4, Rows: 3, Tiers: 1}, shipPlace{3, 2, 0}, 11},
		{impl.Hull{Bays: 4, Rows: 3, Tiers: 1}, shipPlace{2, 1, 0}, 7},
		// As many as there may be.
		{mostSlots, shipPlace{3, 2, 2}, 35},
		{mostSlots, shipPlace{3, 0, 0}, 27},
		{mostSlots, shipPlace{0, 2, 0}, 6},
		{mostSlots, shipPlace{1, 2, 0}, 15},
		{mostSlots, shipPlace{4, 0, 0}, -1},
		{mostSlots, shipPlace{0, 3, 0}, -1},
		{mostSlots, shipPlace{0, 0, 3}, -1},
		// Ships that are not valid.
		{impl.Hull{}, shipPlace{0, 0, 0}, -1},
		{impl.Hull{Bays: 1, Rows: 1}, shipPlace{0, 0, 0}, -1},
		{impl.Hull{Bays: 5, Rows: 1, Tiers: 1}, shipPlace{4, 0, 0}, -1},
		{impl.Hull{Bays: 1, Rows: 4, Tiers: 1}, shipPlace{0, 3, 0}, -1},
		{impl.Hull{Bays: 1, Rows: 1, Tiers: 4}, shipPlace{0, 0, 0}, -1},
	} {
		if got := slotOf(k.ship, k.place); got != k.want {
			t.Errorf("SlotOf of %+v, %+v is %d, not %d", k.ship, k.place, got, k.want)
		}
	}
}

func TestP65SlotsTellPlaces(t *testing.T) {
	for _, h := range validShips() {
		for want, p := range placesOf(h) {
			slot := slotOf(h, p)
			if slot != want {
				t.Fatalf("SlotOf of %+v, %+v is %d, not %d", h, p, slot, want)
			}
			if back := placeOf(h, slot); back != p {
				t.Fatalf("SlotOf of %+v, %+v is %d, which is %+v", h, p, slot, back)
			}
		}
	}
}

func TestSlotOfPlacesThatAreNotThere(t *testing.T) {
	for _, h := range validShips() {
		there := map[shipPlace]bool{}
		for _, p := range placesOf(h) {
			there[p] = true
		}
		for bay := -3; bay <= 6; bay++ {
			for row := -3; row <= 6; row++ {
				for tier := -3; tier <= 6; tier++ {
					p := shipPlace{bay, row, tier}
					if got := slotOf(h, p); !there[p] && got != -1 {
						t.Errorf("SlotOf of %+v, %+v is %d, not -1", h, p, got)
					}
				}
			}
		}
	}
}

func TestSlotOfFarPlaces(t *testing.T) {
	for _, h := range validShips() {
		for _, p := range placesOf(h) {
			for _, far := range farNumbers {
				for _, other := range []shipPlace{{far, p.row, p.tier}, {p.bay, far, p.tier}, {p.bay, p.row, far}, {far, far, far}} {
					if got := slotOf(h, other); got != -1 {
						t.Errorf("SlotOf of %+v, %+v is %d, not -1", h, other, got)
					}
				}
			}
			for _, other := range []shipPlace{{p.bay + 1<<32, p.row, p.tier}, {p.bay, p.row - 1<<32, p.tier}, {p.bay, p.row, p.tier + 1<<32}} {
				if got := slotOf(h, other); got != -1 {
					t.Errorf("SlotOf of %+v, %+v is %d, not -1", h, other, got)
				}
			}
		}
	}
}

func TestSlotOfOtherShips(t *testing.T) {
	for _, h := range invalidShips() {
		for _, p := range append(placesOf(mostSlots), noPlace, shipPlace{4, 0, 0}, shipPlace{0, 3, 0}, shipPlace{0, 0, 3}, shipPlace{-1, 0, 0}) {
			if got := slotOf(h, p); got != -1 {
				t.Errorf("SlotOf of %+v, %+v is %d, not -1", h, p, got)
			}
		}
	}
}

func TestPlaceOfKnownSlots(t *testing.T) {
	ship := impl.Hull{Bays: 2, Rows: 3, Tiers: 2}
	for _, k := range []struct {
		ship impl.Hull
		slot int
		want shipPlace
	}{
		{ship, 0, shipPlace{0, 0, 0}},
		{ship, 1, shipPlace{0, 0, 1}},
		{ship, 2, shipPlace{0, 1, 0}},
		{ship, 5, shipPlace{0, 2, 1}},
		{ship, 6, shipPlace{1, 0, 0}},
		{ship, 10, shipPlace{1, 2, 0}},
		{ship, 11, shipPlace{1, 2, 1}},
		{ship, 12, noPlace},
		{ship, -1, noPlace},
		{ship, -12, noPlace},
		{oneSlot, 0, shipPlace{0, 0, 0}},
		{oneSlot, 1, noPlace},
		{oneSlot, -1, noPlace},
		{impl.Hull{Bays: 1, Rows: 3, Tiers: 2}, 3, shipPlace{0, 1, 1}},
		{impl.Hull{Bays: 1, Rows: 3, Tiers: 2}, 6, noPlace},
		{impl.Hull{Bays: 4, Rows: 1, Tiers: 2}, 7, shipPlace{3, 0, 1}},
		{impl.Hull{Bays: 4, Rows: 1, Tiers: 2}, 8, noPlace},
		{impl.Hull{Bays: 4, Rows: 2, Tiers: 1}, 5, shipPlace{2, 1, 0}},
		{impl.Hull{Bays: 4, Rows: 2, Tiers: 1}, 8, noPlace},
		{mostSlots, 35, shipPlace{3, 2, 2}},
		{mostSlots, 27, shipPlace{3, 0, 0}},
		{mostSlots, 8, shipPlace{0, 2, 2}},
		{mostSlots, 36, noPlace},
		// Ships that are not valid.
		{impl.Hull{}, 0, noPlace},
		{impl.Hull{Bays: 2, Rows: 3}, 0, noPlace},
		{impl.Hull{Bays: 2, Tiers: 2}, 0, noPlace},
		{impl.Hull{Bays: -1, Rows: -1, Tiers: 1}, 0, noPlace},
		{impl.Hull{Bays: 5, Rows: 3, Tiers: 3}, 0, noPlace},
		{impl.Hull{Bays: 4, Rows: 4, Tiers: 3}, 47, noPlace},
		{impl.Hull{Bays: 4, Rows: 3, Tiers: 4}, 1, noPlace},
	} {
		if got := placeOf(k.ship, k.slot); got != k.want {
			t.Errorf("PlaceOf of %+v, %d is %+v, not %+v", k.ship, k.slot, got, k.want)
		}
	}
}

func TestP66PlacesTellSlots(t *testing.T) {
	for _, h := range validShips() {
		for slot, want := range placesOf(h) {
			p := placeOf(h, slot)
			if p != want {
				t.Fatalf("PlaceOf of %+v, %d is %+v, not %+v", h, slot, p, want)
			}
			if back := slotOf(h, p); back != slot {
				t.Fatalf("PlaceOf of %+v, %d is %+v, which is %d", h, slot, p, back)
			}
		}
	}
}

func TestPlaceOfOtherShips(t *testing.T) {
	for _, h := range invalidShips() {
		for slot := -40; slot <= 150; slot++ {
			if got := placeOf(h, slot); got != noPlace {
				t.Errorf("PlaceOf of %+v, %d is %+v", h, slot, got)
			}
		}
		for _, slot := range farNumbers {
			if got := placeOf(h, slot); got != noPlace {
				t.Errorf("PlaceOf of %+v, %d is %+v", h, slot, got)
			}
		}
	}
}

func TestSlotBelowKnownSlots(t *testing.T) {
	ship := impl.Hull{Bays: 2, Rows: 3, Tiers: 2}
	for _, k := range []struct {
		ship impl.Hull
		slot int
		want int
	}{
		{ship, 0, -1},
		{ship, 1, 0},
		{ship, 2, -1},
		{ship, 3, 2},
		{ship, 6, -1},
		{ship, 7, 6},
		{ship, 10, -1},
		{ship, 11, 10},
		{ship, 12, -1},
		{ship, 13, -1},
		{ship, -1, -1},
		{oneSlot, 0, -1},
		{oneSlot, 1, -1},
		{oneSlot, -1, -1},
		{impl.Hull{Bays: 4, Rows: 3, Tiers: 1}, 1, -1},
		{impl.Hull{Bays: 4, Rows: 3, Tiers: 1}, 11, -1},
		{impl.Hull{Bays: 1, Rows: 1, Tiers: 3}, 0, -1},
		{impl.Hull{Bays: 1, Rows: 1, Tiers: 3}, 1, 0},
		{impl.Hull{Bays: 1, Rows: 1, Tiers: 3}, 2, 1},
		{impl.Hull{Bays: 1, Rows: 1, Tiers: 3}, 3, -1},
		{mostSlots, 33, -1},
		{mostSlots, 34, 33},
		{mostSlots, 35, 34},
		{mostSlots, 36, -1},
		// Ships that are not valid.
		{impl.Hull{}, 0, -1},
		{impl.Hull{}, 1, -1},
		{impl.Hull{Bays: 2, Rows: 3}, 1, -1},
		{impl.Hull{Bays: 5, Rows: 3, Tiers: 3}, 1, -1},
		{impl.Hull{Bays: 4, Rows: 4, Tiers: 3}, 1, -1},
		{impl.Hull{Bays: 4, Rows: 3, Tiers: 4}, 1, -1},
		{impl.Hull{Bays: -1, Rows: -1, Tiers: 3}, 1, -1},
	} {
		if got := impl.SlotBelow(k.ship, k.slot); got != k.want {
			t.Errorf("SlotBelow of %+v, %d is %d, not %d", k.ship, k.slot, got, k.want)
		}
	}
}

func TestP67BelowASlotIsOneOfTheSameRow(t *testing.T) {
	for _, h := range validShips() {
		lowest := 0
		for slot, p := range placesOf(h) {
			below := impl.SlotBelow(h, slot)
			if below == -1 {
				if p.tier != 0 {
					t.Errorf("below %d of %+v, at %+v, there is no slot", slot, h, p)
				}
				lowest++
				continue
			}
			if got := placeOf(h, below); got != (shipPlace{p.bay, p.row, p.tier - 1}) {
				t.Errorf("below %d of %+v, at %+v, is %d, at %+v", slot, h, p, below, got)
			}
		}
		if lowest != h.Bays*h.Rows {
			t.Errorf("%d slots of %+v have none below them", lowest, h)
		}
	}
}

func TestSlotBelowSlotsThatAreNotThere(t *testing.T) {
	for _, h := range validShips() {
		for _, slot := range noSlots(len(placesOf(h))) {
			if got := impl.SlotBelow(h, slot); got != -1 {
				t.Errorf("SlotBelow of %+v, %d is %d, not -1", h, slot, got)
			}
		}
	}
}

func TestSlotBelowInOtherShips(t *testing.T) {
	for _, h := range invalidShips() {
		for slot := -40; slot <= 150; slot++ {
			if got := impl.SlotBelow(h, slot); got != -1 {
				t.Errorf("SlotBelow of %+v, %d is %d, not -1", h, slot, got)
			}
		}
		for _, slot := range farNumbers {
			if got := impl.SlotBelow(h, slot); got != -1 {
				t.Errorf("SlotBelow of %+v, %d is %d, not -1", h, slot, got)
			}
		}
	}
}

// slotAnswers has all that is told of a ship and a number.
type slotAnswers struct {
	valid bool
	many  int
	slot  int
	place shipPlace
	below int
}

func slotAnswersOf(h impl.Hull, number int) slotAnswers {
	return slotAnswers{impl.HullValid(h), impl.SlotMany(h), impl.SlotOf(h, number, number, number), placeOf(h, number), impl.SlotBelow(h, number)}
}

// TestShipsAreNotChanged also converts the ship: with anything but three numbers in it, such as a list that could be shared, it would not build.
func TestShipsAreNotChanged(t *testing.T) {
	for _, h := range append(validShips(), invalidShips()...) {
		before := struct{ Bays, Rows, Tiers int }(h)
		for number := -2; number <= 40; number++ {
			slotAnswersOf(h, number)
		}
		if after := struct{ Bays, Rows, Tiers int }(h); after != before {
			t.Fatalf("%+v was changed to %+v", before, after)
		}
	}
}

func TestShipsKeepNothingFromCallToCall(t *testing.T) {
	ships := append(validShips(), invalidShips()...)
	first := map[impl.Hull][]slotAnswers{}
	for _, h := range ships {
		for number := range 40 {
			if a := slotAnswersOf(h, number); len(first[h]) <= number {
				first[h] = append(first[h], a)
			}
		}
	}
	for i := range ships {
		h := ships[len(ships)-1-i]
		for number, want := range first[h] {
			if got := slotAnswersOf(h, number); got != want {
				t.Fatalf("the answers for %+v, %d are %+v, and were %+v", h, number, got, want)
			}
		}
	}
}
