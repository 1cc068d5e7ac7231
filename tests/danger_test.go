package tests

import (
	"slices"
	"testing"

	"loop.example/containerport/impl"
)

// classes has all classes.
var classes = []int{0, 1, 2, 3}

func (l loading) tooNear() []impl.Pair {
	return impl.TooNear(l.ship, l.boxes, l.plan)
}

func (l loading) safeSlots(class int) []int {
	return impl.SafeSlots(l.ship, l.boxes, l.plan, class)
}

// noClasses has numbers that are not classes: -1, MaxClass + 1, and others outside the bounds.
func noClasses() []int {
	return noSlots(4)
}

// needOf goes by the document, for two classes.
func needOf(a int, b int) int {
	both := func(one int, other int) bool {
		return a == one && b == other || a == other && b == one
	}
	switch {
	case a == 0 || b == 0:
		return 0
	case both(3, 3), both(1, 2):
		return 1
	case both(1, 1), both(2, 2):
		return 0
	case both(1, 3):
		return 2
	}
	return 3
}

// apartOf goes by the document, for two places of a ship.
func apartOf(one shipPlace, two shipPlace) int {
	switch {
	case one.bay == two.bay && one.row == two.row:
		return 0
	case one.bay == two.bay:
		return 1
	case one.bay+1 == two.bay || two.bay+1 == one.bay:
		return 2
	}
	return 3
}

// classIn returns the class of the box in a slot that is not empty.
func classIn(l loading, slot int) int {
	return l.boxes[slices.Index(idsOf(l.boxes), l.plan[slot])].Class
}

// farEnough goes by the document, for a box of a class in a slot and the box in another slot of a valid plan.
func farEnough(l loading, slot int, class int, other int) bool {
	places := placesOf(l.ship)
	return apartOf(places[slot], places[other]) >= needOf(class, classIn(l, other))
}

// tooNearOf goes by the document, for a valid plan.
func tooNearOf(l loading) []impl.Pair {
	var pairs []impl.Pair
	for b := range l.plan {
		for a := range b {
			if l.plan[a] != 0 && l.plan[b] != 0 && !farEnough(l, a, classIn(l, a), b) {
				pairs = append(pairs, impl.Pair{A: a, B: b})
			}
		}
	}
	slices.SortFunc(pairs, func(p impl.Pair, q impl.Pair) int {
		if p.A != q.A {
			return p.A - q.A
		}
		return p.B - q.B
	})
	return pairs
}

// safeOf goes by the document, for a valid plan and a class.
func safeOf(l loading, class int) []int {
	full := fullSlots(l)
	return slices.DeleteFunc(nextOf(l), func(slot int) bool {
		return slices.ContainsFunc(full, func(other int) bool { return !farEnough(l, slot, class, other) })
	})
}

// ofClasses has boxes with the ids from 1 on of these classes.
func ofClasses(list ...int) []impl.Box {
	boxes := numberedBoxes(len(list))
	for i, class := range list {
		boxes[i].Class = class
	}
	return boxes
}

// boxesOfClasses has MaxBoxes boxes, each of one of some classes.
func boxesOfClasses(some []int, next func(int) int) []impl.Box {
	boxes := manyBoxes()
	for i := range boxes {
		boxes[i].Class = some[next(len(some))]
	}
	return boxes
}

// withClasses has the same boxes in all but their classes.
func (l loading) withClasses(classOf func(impl.Box) int) loading {
	boxes := slices.Clone(l.boxes)
	for i, b := range boxes {
		boxes[i].Class = classOf(b)
	}
	return l.withBoxes(boxes)
}

// smallDangers has ships of at most four slots, all of them full, with boxes of all classes in every order, and the same ones without the boxes of one row, which are on the quay then.
func smallDangers() []loading {
	var list []loading
	for _, h := range validShips() {
		many := len(placesOf(h))
		if many > 4 {
			continue
		}
		for _, some := range portsLists(many, classes) {
			full := loading{h, ofClasses(some...), numberedIds(many)}
			list = append(list, full)
			for _, row := range rowsOf(h) {
				part := full
				for _, slot := range row {
					part = part.withSlot(slot, 0)
				}
				list = append(list, part)
			}
		}
	}
	return list
}

// grownDangers has plans of all ships with every number of boxes up to MaxBoxes, harmless ones, those of one class, of two and of all.
func grownDangers() []loading {
	var list []loading
	for i, h := range validShips() {
		next := numbersFrom(uint32(500 + i))
		for many := range min(10, len(placesOf(h))) + 1 {
			for _, some := range [][]int{{0}, {1 + next(3)}, {1, 2}, {1, 3}, {2, 3}, {0, 0, 0, 1 + next(3)}, {0, 1, 2, 3}} {
				list = append(list, grownLoading(h, boxesOfClasses(some, next), many, next))
			}
		}
	}
	return list
}

// dangers has all valid plans for which dangerous boxes are tested.
func dangers() []loading {
	return slices.Concat(smallDangers(), validLoadings(), grownDangers())
}

// knownDanger is a valid plan with what is known of it, all worked out by hand: the pairs that are too near, and for each class the slots that are safe.
type knownDanger struct {
	loading
	near []impl.Pair
	safe [4][]int
}

// knownLines has ships with one slot in each bay, where boxes are 2 or 3 apart.
func knownLines() []knownDanger {
	line := func(plan []int, some ...int) loading {
		return loading{impl.Hull{Bays: len(plan), Rows: 1, Tiers: 1}, ofClasses(some...), plan}
	}
	return []knownDanger{
		// One box: in the first bay, the second one and the last one.
		{line([]int{1, 0, 0, 0}, 1), nil, [4][]int{{1, 2, 3}, {1, 2, 3}, {1, 2, 3}, {1, 2, 3}}},
		{line([]int{1, 0, 0, 0}, 2), nil, [4][]int{{1, 2, 3}, {1, 2, 3}, {1, 2, 3}, {2, 3}}},
		{line([]int{1, 0, 0, 0}, 3), nil, [4][]int{{1, 2, 3}, {1, 2, 3}, {2, 3}, {1, 2, 3}}},
		{line([]int{0, 1, 0, 0}, 2), nil, [4][]int{{0, 2, 3}, {0, 2, 3}, {0, 2, 3}, {3}}},
		{line([]int{0, 1, 0, 0}, 3), nil, [4][]int{{0, 2, 3}, {0, 2, 3}, {3}, {0, 2, 3}}},
		{line([]int{0, 0, 0, 1}, 2), nil, [4][]int{{0, 1, 2}, {0, 1, 2}, {0, 1, 2}, {0, 1}}},
		{line([]int{0, 0, 0, 1}, 0), nil, [4][]int{{0, 1, 2}, {0, 1, 2}, {0, 1, 2}, {0, 1, 2}}},
		// Classes 2 and 3: side by side, with one bay between them, and with two.
		{line([]int{1, 2, 0, 0}, 2, 3), []impl.Pair{{A: 0, B: 1}}, [4][]int{{2, 3}, {2, 3}, {3}, {2, 3}}},
		{line([]int{2, 1, 0, 0}, 2, 3), []impl.Pair{{A: 0, B: 1}}, [4][]int{{2, 3}, {2, 3}, {2, 3}, {3}}},
		{line([]int{1, 0, 2, 0}, 2, 3), nil, [4][]int{{1, 3}, {1, 3}, nil, {3}}},
		{line([]int{1, 0, 0, 2}, 2, 3), nil, [4][]int{{1, 2}, {1, 2}, {1}, {2}}},
		// Classes 1 and 3: side by side is just far enough.
		{line([]int{1, 2}, 1, 3), nil, [4][]int{}},
		{line([]int{2, 1}, 1, 3), nil, [4][]int{}},
		{line([]int{1, 2, 0}, 1, 3), nil, [4][]int{{2}, {2}, nil, {2}}},
		// A bay with a harmless box is a bay between them, too; ahead of them it is none.
		{line([]int{1, 2, 3}, 2, 0, 3), nil, [4][]int{}},
		{line([]int{2, 1, 3}, 2, 0, 3), []impl.Pair{{A: 1, B: 2}}, [4][]int{}},
		// Two pairs with the same A or the same B, and all pairs of a ship.
		{line([]int{1, 2, 3, 0}, 3, 2, 3), []impl.Pair{{A: 0, B: 1}, {A: 1, B: 2}}, [4][]int{{3}, {3}, nil, {3}}},
		{line([]int{1, 2, 3, 4}, 2, 3, 2, 3), []impl.Pair{{A: 0, B: 1}, {A: 1, B: 2}, {A: 2, B: 3}}, [4][]int{}},
		{line([]int{1, 2, 3, 4}, 2, 2, 3, 3), []impl.Pair{{A: 1, B: 2}}, [4][]int{}},
		{line([]int{1, 2, 3, 4}, 1, 1, 2, 2), nil, [4][]int{}},
		{line([]int{1, 2, 3, 4}, 3, 3, 3, 3), nil, [4][]int{}},
	}
}

// knownBays has ships of one bay, where boxes are 0 or 1 apart.
func knownBays() []knownDanger {
	side := func(plan []int, some ...int) loading {
		return loading{impl.Hull{Bays: 1, Rows: len(plan), Tiers: 1}, ofClasses(some...), plan}
	}
	tower := func(plan []int, some ...int) loading {
		return loading{impl.Hull{Bays: 1, Rows: 1, Tiers: len(plan)}, ofClasses(some...), plan}
	}
	square := func(plan []int, some ...int) loading {
		return loading{impl.Hull{Bays: 1, Rows: 2, Tiers: 2}, ofClasses(some...), plan}
	}
	return []knownDanger{
		// Rows beside each other: far enough for 1 and 2, and for two boxes of class 3.
		{side([]int{1, 2, 0}, 1, 2), nil, [4][]int{{2}, {2}, {2}, nil}},
		{side([]int{1, 0, 2}, 2, 1), nil, [4][]int{{1}, {1}, {1}, nil}},
		{side([]int{1, 2, 0}, 3, 3), nil, [4][]int{{2}, nil, nil, {2}}},
		{side([]int{1, 0, 2}, 1, 3), []impl.Pair{{A: 0, B: 2}}, [4][]int{{1}, nil, nil, nil}},
		{side([]int{0, 1, 2}, 2, 3), []impl.Pair{{A: 1, B: 2}}, [4][]int{{0}, nil, nil, nil}},
		{side([]int{1, 2, 3}, 1, 3, 2), []impl.Pair{{A: 0, B: 1}, {A: 1, B: 2}}, [4][]int{}},
		{side([]int{1, 2, 3}, 3, 2, 1), []impl.Pair{{A: 0, B: 1}, {A: 0, B: 2}}, [4][]int{}},
		{side([]int{1, 2, 3}, 1, 2, 3), []impl.Pair{{A: 0, B: 2}, {A: 1, B: 2}}, [4][]int{}},
		{side([]int{0, 1, 0}, 0), nil, [4][]int{{0, 2}, {0, 2}, {0, 2}, {0, 2}}},
		// One row: two boxes of class 1 or of class 2 may lie on each other, two of class 3 may not.
		{tower([]int{1, 2}, 1, 1), nil, [4][]int{}},
		{tower([]int{1, 2}, 2, 2), nil, [4][]int{}},
		{tower([]int{1, 2}, 3, 3), []impl.Pair{{A: 0, B: 1}}, [4][]int{}},
		{tower([]int{1, 2}, 1, 2), []impl.Pair{{A: 0, B: 1}}, [4][]int{}},
		{tower([]int{1, 2}, 0, 3), nil, [4][]int{}},
		{tower([]int{1, 2}, 2, 0), nil, [4][]int{}},
		{tower([]int{1, 2}, 0, 0), nil, [4][]int{}},
		{tower([]int{1, 2, 3}, 3, 3, 3), []impl.Pair{{A: 0, B: 1}, {A: 0, B: 2}, {A: 1, B: 2}}, [4][]int{}},
		{tower([]int{1, 2, 3}, 3, 0, 3), []impl.Pair{{A: 0, B: 2}}, [4][]int{}},
		{tower([]int{1, 2, 3}, 2, 1, 2), []impl.Pair{{A: 0, B: 1}, {A: 1, B: 2}}, [4][]int{}},
		{tower([]int{1, 0, 0}, 1), nil, [4][]int{{1}, {1}, nil, nil}},
		{tower([]int{1, 0, 0}, 2), nil, [4][]int{{1}, nil, {1}, nil}},
		{tower([]int{1, 0, 0}, 3), nil, [4][]int{{1}, nil, nil, nil}},
		{tower([]int{1, 2, 0}, 3, 0), nil, [4][]int{{2}, nil, nil, nil}},
		{tower([]int{2, 1, 0}, 0, 0), nil, [4][]int{{2}, {2}, {2}, {2}}},
		// What is too near already does not keep out a box that is far from both.
		{tower([]int{1, 2, 0}, 3, 3), []impl.Pair{{A: 0, B: 1}}, [4][]int{{2}, nil, nil, nil}},
		{square([]int{1, 2, 0, 0}, 3, 3), []impl.Pair{{A: 0, B: 1}}, [4][]int{{2}, nil, nil, {2}}},
		{square([]int{1, 2, 0, 0}, 1, 2), []impl.Pair{{A: 0, B: 1}}, [4][]int{{2}, {2}, {2}, nil}},
		// In the same row it is nearer by 1 than beside it.
		{square([]int{1, 0, 0, 0}, 3), nil, [4][]int{{1, 2}, nil, nil, {2}}},
		{square([]int{1, 0, 0, 0}, 2), nil, [4][]int{{1, 2}, {2}, {1, 2}, nil}},
		{square([]int{0, 0, 1, 0}, 1), nil, [4][]int{{0, 3}, {0, 3}, {0}, nil}},
		{square([]int{1, 2, 3, 4}, 3, 3, 3, 3), []impl.Pair{{A: 0, B: 1}, {A: 2, B: 3}}, [4][]int{}},
		{square([]int{1, 2, 3, 4}, 1, 3, 3, 1), []impl.Pair{{A: 0, B: 1}, {A: 0, B: 2}, {A: 1, B: 3}, {A: 2, B: 3}}, [4][]int{}},
	}
}

func knownDangers() []knownDanger {
	ship := func(bays int, rows int, tiers int) impl.Hull {
		return impl.Hull{Bays: bays, Rows: rows, Tiers: tiers}
	}
	lowest := []int{0, 3, 6, 9, 12, 15, 18, 21, 24, 27, 30, 33}
	ten, threes := manyBoxes(), ofClasses(3, 3, 3, 3, 3, 3, 3, 3, 3, 3)
	allInRows := []impl.Pair{{A: 0, B: 1}, {A: 0, B: 2}, {A: 1, B: 2}, {A: 3, B: 4}, {A: 3, B: 5}, {A: 4, B: 5}, {A: 6, B: 7}, {A: 6, B: 8}, {A: 7, B: 8}}
	return slices.Concat(knownLines(), knownBays(), []knownDanger{
		// Without boxes on the ship all slots that are next are safe, whatever is on the quay.
		{loading{oneSlot, nil, []int{0}}, nil, [4][]int{{0}, {0}, {0}, {0}}},
		{loading{oneSlot, threes, []int{0}}, nil, [4][]int{{0}, {0}, {0}, {0}}},
		{loading{ship(4, 1, 3), threes, make([]int, 12)}, nil, [4][]int{{0, 3, 6, 9}, {0, 3, 6, 9}, {0, 3, 6, 9}, {0, 3, 6, 9}}},
		{loading{mostSlots, ten, make([]int, 36)}, nil, [4][]int{lowest, lowest, lowest, lowest}},
		// One slot, which is full.
		{loading{oneSlot, ten, []int{500}}, nil, [4][]int{}},
		{loading{oneSlot, threes, []int{4}}, nil, [4][]int{}},
		// From bay to bay the rows do not matter.
		{loading{ship(3, 2, 1), ofClasses(2, 3, 0), []int{1, 3, 2, 0, 0, 0}}, []impl.Pair{{A: 0, B: 2}}, [4][]int{{3, 4, 5}, {4, 5}, nil, {4, 5}}},
		{loading{ship(2, 2, 1), ofClasses(1, 2, 3), []int{1, 2, 0, 3}}, []impl.Pair{{A: 1, B: 3}}, [4][]int{{2}, nil, nil, nil}},
		{loading{ship(2, 2, 1), ofClasses(1, 2, 3), []int{3, 0, 0, 2}}, []impl.Pair{{A: 0, B: 3}}, [4][]int{{1, 2}, {2}, nil, nil}},
		// Full ships: all of class 3, and of all classes.
		{loading{ship(1, 3, 3), threes, numberedIds(9)}, allInRows, [4][]int{}},
		{loading{ship(2, 1, 2), ofClasses(3, 0, 1, 2), numberedIds(4)}, []impl.Pair{{A: 0, B: 3}, {A: 2, B: 3}}, [4][]int{}},
		// MaxBoxes boxes: harmless ones, of class 3, and of all classes, with 1 3 0, 0 3 1, 0 0 2 and 2 in the rows.
		{loading{ship(4, 1, 3), numberedBoxes(10), append(numberedIds(10), 0, 0)}, nil, [4][]int{{10}, {10}, {10}, {10}}},
		{loading{ship(4, 1, 3), threes, append(numberedIds(10), 0, 0)}, allInRows, [4][]int{{10}, nil, nil, nil}},
		{
			loading{ship(2, 2, 3), ten, []int{500, 999, 1, 2, 998, 17, 4, 40, 400, 50, 0, 0}},
			[]impl.Pair{{A: 0, B: 1}, {A: 0, B: 4}, {A: 1, B: 5}, {A: 1, B: 8}, {A: 1, B: 9}, {A: 4, B: 5}, {A: 4, B: 8}, {A: 4, B: 9}},
			[4][]int{{10}, nil, nil, nil},
		},
	})
}

func TestApartNeedOfAllClasses(t *testing.T) {
	for _, k := range []struct{ a, b, want int }{
		{0, 0, 0}, {0, 1, 0}, {0, 2, 0}, {0, 3, 0},
		{1, 0, 0}, {1, 1, 0}, {1, 2, 1}, {1, 3, 2},
		{2, 0, 0}, {2, 1, 1}, {2, 2, 0}, {2, 3, 3},
		{3, 0, 0}, {3, 1, 2}, {3, 2, 3}, {3, 3, 1},
	} {
		if got := impl.ApartNeed(k.a, k.b); got != k.want || got != needOf(k.a, k.b) {
			t.Errorf("ApartNeed of %d and %d is %d, not %d", k.a, k.b, got, k.want)
		}
	}
}

func TestApartNeedOfOtherClasses(t *testing.T) {
	for _, class := range []int{-1, impl.MaxClass + 1} {
		if !slices.Contains(noClasses(), class) {
			t.Fatalf("%d is not among %v", class, noClasses())
		}
	}
	for _, a := range noClasses() {
		for _, b := range slices.Concat(classes, noClasses()) {
			if one, other := impl.ApartNeed(a, b), impl.ApartNeed(b, a); one != -1 || other != -1 {
				t.Errorf("ApartNeed of %d and %d is %d and, exchanged, %d, not -1", a, b, one, other)
			}
		}
	}
}

func TestP83BeingApartHasNoDirection(t *testing.T) {
	list := slices.Concat(classes, noClasses())
	for _, a := range list {
		for _, b := range list {
			if one, other := impl.ApartNeed(a, b), impl.ApartNeed(b, a); one != other {
				t.Errorf("ApartNeed of %d and %d is %d, but %d for both exchanged", a, b, one, other)
			}
		}
	}
}

func TestP83HarmlessBoxesMayBeAnywhere(t *testing.T) {
	for _, class := range classes {
		if one, other := impl.ApartNeed(0, class), impl.ApartNeed(class, 0); one != 0 || other != 0 {
			t.Errorf("ApartNeed of 0 and %d is %d and, exchanged, %d", class, one, other)
		}
	}
	for _, l := range dangers() {
		if got, want := l.safeSlots(0), l.next(); !slices.Equal(got, want) {
			t.Fatalf("SafeSlots of %+v, 0 is %v, not %v", l, got, want)
		}
		for _, p := range l.tooNear() {
			if classIn(l, p.A) == 0 || classIn(l, p.B) == 0 {
				t.Fatalf("TooNear of %+v has %+v, though one of both is harmless", l, p)
			}
		}
	}
}

func TestApartOfKnownSlots(t *testing.T) {
	six := impl.Hull{Bays: 3, Rows: 2, Tiers: 1}
	line := impl.Hull{Bays: 4, Rows: 1, Tiers: 1}
	high := impl.Hull{Bays: 2, Rows: 2, Tiers: 3}
	side := impl.Hull{Bays: 1, Rows: 3, Tiers: 2}
	tower := impl.Hull{Bays: 1, Rows: 1, Tiers: 3}
	for _, k := range []struct {
		ship           impl.Hull
		one, two, want int
	}{
		{six, 0, 0, 0}, {six, 0, 1, 1}, {six, 0, 2, 2}, {six, 0, 3, 2}, {six, 0, 4, 3}, {six, 0, 5, 3}, {six, 1, 2, 2}, {six, 3, 4, 2}, {six, 1, 5, 3}, {six, 5, 4, 1},
		// Bays one behind the other, and with one and two between them.
		{line, 0, 1, 2}, {line, 1, 2, 2}, {line, 2, 3, 2}, {line, 0, 2, 3}, {line, 1, 3, 3}, {line, 0, 3, 3}, {line, 3, 3, 0}, {line, 3, 0, 3}, {line, 2, 1, 2},
		// The tiers do not matter, also where slots are beside each other as numbers.
		{high, 0, 2, 0}, {high, 2, 3, 1}, {high, 0, 5, 1}, {high, 5, 6, 2}, {high, 0, 6, 2}, {high, 2, 11, 2}, {high, 6, 8, 0}, {high, 8, 9, 1},
		// One bay: the first row and the last one are no farther apart than two beside each other.
		{side, 0, 1, 0}, {side, 0, 2, 1}, {side, 1, 2, 1}, {side, 0, 5, 1}, {side, 4, 1, 1},
		// One row, and one slot.
		{tower, 0, 1, 0}, {tower, 0, 2, 0}, {tower, 2, 1, 0},
		{oneSlot, 0, 0, 0},
		{mostSlots, 0, 8, 1}, {mostSlots, 8, 9, 2}, {mostSlots, 0, 17, 2}, {mostSlots, 0, 18, 3}, {mostSlots, 35, 0, 3}, {mostSlots, 26, 27, 2}, {mostSlots, 33, 35, 0},
		// Slots that are not there, also twice the same one.
		{six, -1, 0, -1}, {six, 0, -1, -1}, {six, -1, -1, -1}, {six, 6, 0, -1}, {six, 5, 6, -1}, {six, 6, 6, -1}, {six, -1, 6, -1},
		{oneSlot, 0, 1, -1}, {oneSlot, 1, 1, -1}, {oneSlot, -1, 0, -1},
		{mostSlots, 35, 36, -1}, {mostSlots, 36, 36, -1},
		// Ships that are not valid.
		{impl.Hull{}, 0, 0, -1}, {impl.Hull{Bays: 5, Rows: 1, Tiers: 1}, 0, 1, -1}, {impl.Hull{Bays: 1, Rows: 4, Tiers: 1}, 0, 0, -1}, {impl.Hull{Bays: 1, Rows: 1, Tiers: 4}, 0, 1, -1}, {impl.Hull{Bays: -1, Rows: -1, Tiers: 1}, 0, 0, -1},
	} {
		if got := impl.ApartOf(k.ship, k.one, k.two); got != k.want {
			t.Errorf("ApartOf of %+v, %d, %d is %d, not %d", k.ship, k.one, k.two, got, k.want)
		}
	}
}

func TestApartOfAllSlots(t *testing.T) {
	for _, h := range validShips() {
		places := placesOf(h)
		for one := range places {
			for two := range places {
				if got, want := impl.ApartOf(h, one, two), apartOf(places[one], places[two]); got != want {
					t.Errorf("ApartOf of %+v, %d, %d is %d, not %d", h, one, two, got, want)
				}
			}
		}
	}
}

func TestApartOfOtherSlots(t *testing.T) {
	for _, h := range validShips() {
		many := len(placesOf(h))
		for _, wrong := range noSlots(many) {
			for slot := range many {
				if one, other := impl.ApartOf(h, wrong, slot), impl.ApartOf(h, slot, wrong); one != -1 || other != -1 {
					t.Errorf("ApartOf of %+v, %d, %d is %d and, exchanged, %d, not -1", h, wrong, slot, one, other)
				}
			}
			for _, another := range noSlots(many) {
				if got := impl.ApartOf(h, wrong, another); got != -1 {
					t.Errorf("ApartOf of %+v, %d, %d is %d, not -1", h, wrong, another, got)
				}
			}
		}
	}
}

func TestApartOfOtherShips(t *testing.T) {
	for _, h := range invalidShips() {
		for one := -1; one <= 4; one++ {
			for two := -1; two <= 4; two++ {
				if got := impl.ApartOf(h, one, two); got != -1 {
					t.Errorf("ApartOf of %+v, %d, %d is %d, not -1", h, one, two, got)
				}
			}
		}
	}
}

func TestP84DistancesHaveNoDirection(t *testing.T) {
	for _, h := range append(validShips(), invalidShips()...) {
		for one := -1; one <= 37; one++ {
			for two := -1; two < one; two++ {
				if there, back := impl.ApartOf(h, one, two), impl.ApartOf(h, two, one); there != back {
					t.Errorf("ApartOf of %+v, %d, %d is %d, but %d for both exchanged", h, one, two, there, back)
				}
			}
		}
	}
}

func TestP84ASlotIsNotApartFromItselfNorFromThatBelow(t *testing.T) {
	for _, h := range validShips() {
		for slot := range placesOf(h) {
			if got := impl.ApartOf(h, slot, slot); got != 0 {
				t.Errorf("ApartOf of %+v, %d and itself is %d", h, slot, got)
			}
			below := impl.SlotBelow(h, slot)
			if below == -1 {
				continue
			}
			if got := impl.ApartOf(h, slot, below); got != 0 {
				t.Errorf("ApartOf of %+v, %d and that below it is %d", h, slot, got)
			}
		}
	}
}

func TestTooNearOfKnownPlans(t *testing.T) {
	for _, k := range knownDangers() {
		if got := k.tooNear(); !slices.Equal(got, k.near) {
			t.Errorf("TooNear of %+v is %v, not %v", k.loading, got, k.near)
		}
	}
}

func TestSafeSlotsOfKnownPlans(t *testing.T) {
	for _, k := range knownDangers() {
		for _, class := range classes {
			if got := k.safeSlots(class); !slices.Equal(got, k.safe[class]) {
				t.Errorf("SafeSlots of %+v, %d is %v, not %v", k.loading, class, got, k.safe[class])
			}
		}
	}
}

// Of all plans every answer is held against the document.
func TestDangersOfValidPlans(t *testing.T) {
	for _, l := range dangers() {
		if got, want := l.tooNear(), tooNearOf(l); !slices.Equal(got, want) {
			t.Fatalf("TooNear of %+v is %v, not %v", l, got, want)
		}
		for _, class := range classes {
			if got, want := l.safeSlots(class), safeOf(l, class); !slices.Equal(got, want) {
				t.Fatalf("SafeSlots of %+v, %d is %v, not %v", l, class, got, want)
			}
		}
	}
}

// Two boxes alone, in any two slots: boxes that are exactly as far apart as they have to be are not too near, and those that are nearer by 1 are.
func TestTooNearOfTwoBoxes(t *testing.T) {
	just, nearer := map[int]int{}, map[int]int{}
	for _, l := range dangers() {
		full := fullSlots(l)
		if len(full) != 2 {
			continue
		}
		need, apart := impl.ApartNeed(classIn(l, full[0]), classIn(l, full[1])), impl.ApartOf(l.ship, full[0], full[1])
		near := len(l.tooNear()) == 1
		if near != (apart < need) {
			t.Fatalf("TooNear of %+v is %v, but the boxes are %d apart, and have to be %d", l, l.tooNear(), apart, need)
		}
		switch apart - need {
		case 0:
			just[need]++
		case -1:
			nearer[need]++
		}
	}
	for _, need := range []int{1, 2, 3} {
		if just[need] < 10 || nearer[need] < 10 {
			t.Fatalf("boxes that have to be %d apart are so in %d plans, and are nearer by 1 in %d", need, just[need], nearer[need])
		}
	}
}

// withFurther has one box of a class more on the quay, and its id; false if there are MaxBoxes boxes on the ship.
func (l loading) withFurther(class int) (loading, int, bool) {
	boxes := slices.Clone(l.boxes)
	if len(boxes) < 10 {
		return l.withBoxes(append(boxes, impl.Box{Id: 777, Weight: 12, Class: class})), 777, true
	}
	left := l.notLoaded()
	if len(left) == 0 {
		return l, 0, false
	}
	boxes[slices.Index(idsOf(boxes), left[0])].Class = class
	return l.withBoxes(boxes), left[0], true
}

// checkP9 puts a box into each slot that is next, and returns in how many it is safe, and in how many it is not.
func checkP9(t *testing.T, l loading, class int, id int) (int, int) {
	t.Helper()
	before, safe, next := l.tooNear(), l.safeSlots(class), l.next()
	for _, slot := range safe {
		if !slices.Contains(next, slot) {
			t.Fatalf("SafeSlots of %+v, %d is %v, but %d is not next", l, class, safe, slot)
		}
	}
	for _, slot := range next {
		plan, ok := l.put(slot, id)
		if !ok {
			t.Fatalf("PlanPut of %+v, %d, %d fails", l, slot, id)
		}
		after := l.with(plan).tooNear()
		if slices.Contains(safe, slot) {
			if !slices.Equal(after, before) {
				t.Fatalf("TooNear of %+v is %v, and with class %d put into the safe slot %d it is %v", l, before, class, slot, after)
			}
			continue
		}
		if len(after) <= len(before) {
			t.Fatalf("TooNear of %+v is %v, and with class %d put into the slot %d, which is not safe, it is %v", l, before, class, slot, after)
		}
		for _, p := range before {
			if !slices.Contains(after, p) {
				t.Fatalf("TooNear of %+v has %+v, but not with class %d put into the slot %d", l, p, class, slot)
			}
		}
	}
	return len(safe), len(next) - len(safe)
}

func TestP9BoxesInSafeSlotsAreSafe(t *testing.T) {
	// For each class the numbers of plans of which no slot that is next is safe, of which some are, and of which all are.
	var none, some, all [4]int
	nearAlready := 0
	for _, l := range dangers() {
		for _, class := range classes {
			further, id, ok := l.withFurther(class)
			if !ok {
				continue
			}
			safe, unsafe := checkP9(t, further, class, id)
			switch {
			case safe+unsafe == 0:
			case safe == 0:
				none[class]++
			case unsafe == 0:
				all[class]++
			default:
				some[class]++
			}
			if safe > 0 && len(further.tooNear()) > 0 {
				nearAlready++
			}
		}
	}
	if none[0] != 0 || some[0] != 0 || all[0] < 100 || nearAlready < 100 {
		t.Fatalf("plans in which none, some and all slots are safe: %v, %v, %v; with boxes too near already: %d", none, some, all, nearAlready)
	}
	for _, class := range classes[1:] {
		if none[class] < 100 || some[class] < 100 || all[class] < 100 {
			t.Fatalf("plans in which none, some and all slots are safe for class %d: %d, %d, %d", class, none[class], some[class], all[class])
		}
	}
}

// A ship that is loaded by safe slots alone never has boxes that are too near.
func TestP9ShipsLoadedBySafeSlotsAreSafe(t *testing.T) {
	many := 0
	for i, h := range validShips() {
		next := numbersFrom(uint32(600 + i))
		for range 10 {
			l := loading{h, boxesOfClasses(classes, next), make([]int, len(placesOf(h)))}
			for _, b := range l.boxes {
				safe := l.safeSlots(b.Class)
				if len(safe) == 0 {
					continue
				}
				plan, ok := l.put(safe[next(len(safe))], b.Id)
				if l = l.with(plan); !ok || len(l.tooNear()) != 0 {
					t.Fatalf("TooNear of %+v, which was loaded by SafeSlots, is %v", l, l.tooNear())
				}
				many++
			}
		}
	}
	if many < 1000 {
		t.Fatalf("only %d boxes were put into safe slots", many)
	}
}

func TestP85FewerBoxesAreSafer(t *testing.T) {
	fewer := 0
	for _, l := range dangers() {
		before := l.tooNear()
		for _, slot := range fullSlots(l) {
			plan, id := l.take(slot)
			if id == -1 {
				continue
			}
			after := l.with(plan).tooNear()
			want := slices.DeleteFunc(slices.Clone(before), func(p impl.Pair) bool { return p.A == slot || p.B == slot })
			if !slices.Equal(after, want) {
				t.Fatalf("TooNear of %+v is %v, and without the box in %d it is %v, not %v", l, before, slot, after, want)
			}
			if len(after) < len(before) {
				fewer++
			}
		}
	}
	if fewer < 1000 {
		t.Fatalf("only %d boxes were too near to another one", fewer)
	}
}

func TestP85WithoutDangerousBoxesNoneAreTooNear(t *testing.T) {
	for _, l := range dangers() {
		harmless := l.withClasses(func(impl.Box) int { return 0 })
		if near := harmless.tooNear(); len(near) != 0 {
			t.Fatalf("TooNear of %+v is %v", harmless, near)
		}
		for _, class := range classes {
			if got, want := harmless.safeSlots(class), l.next(); !slices.Equal(got, want) {
				t.Fatalf("SafeSlots of %+v, %d is %v, not %v", harmless, class, got, want)
			}
		}
	}
}

// Boxes that are on the quay are not too near to any other one, of whatever class they are.
func TestDangerousBoxesOnTheQuay(t *testing.T) {
	for _, l := range dangers() {
		near := l.tooNear()
		for _, class := range classes {
			quay := l.withClasses(func(b impl.Box) int {
				if slices.Contains(l.plan, b.Id) {
					return b.Class
				}
				return class
			})
			if got := quay.tooNear(); !slices.Equal(got, near) {
				t.Fatalf("TooNear of %+v is %v, not %v", quay, got, near)
			}
			for _, other := range classes {
				if got, want := quay.safeSlots(other), l.safeSlots(other); !slices.Equal(got, want) {
					t.Fatalf("SafeSlots of %+v, %d is %v, not %v", quay, other, got, want)
				}
			}
		}
	}
}

func TestSafeSlotsOfOtherClasses(t *testing.T) {
	for _, l := range slices.Concat(fewLoadings(), grownDangers()) {
		for _, class := range noClasses() {
			if got := l.safeSlots(class); len(got) != 0 {
				t.Fatalf("SafeSlots of %+v, %d is %v", l, class, got)
			}
		}
	}
}

// otherDangers has otherLoadings, otherWeights also with dangerous boxes, a plan with one box of a class that is none, on the ship or on the quay, and one with two boxes of one id.
func otherDangers() []loading {
	list := otherLoadings()
	for _, l := range otherWeights() {
		list = append(list, l.withClasses(func(impl.Box) int { return 3 }), l.withClasses(func(b impl.Box) int { return b.Id & 3 }))
	}
	pair := loading{impl.Hull{Bays: 1, Rows: 2, Tiers: 2}, ofClasses(3, 3, 0), []int{1, 2, 0, 0}}
	for _, class := range noClasses() {
		for at := range pair.boxes {
			list = append(list, pair.withClasses(func(b impl.Box) int {
				if b.Id == at+1 {
					return class
				}
				return b.Class
			}))
		}
	}
	return append(list, pair.withBoxes(append(ofClasses(3, 3), impl.Box{Id: 1, Weight: 5, Class: 3})), pair.withBoxes(append(ofClasses(3, 3), impl.Box{Id: 2, Weight: 5})))
}

func TestDangersOfOtherPlans(t *testing.T) {
	for _, l := range otherDangers() {
		if got := l.tooNear(); len(got) != 0 {
			t.Fatalf("TooNear of %+v is %v", l, got)
		}
		for _, class := range []int{0, 1, 2, 3, -1, 4} {
			if got := l.safeSlots(class); len(got) != 0 {
				t.Fatalf("SafeSlots of %+v, %d is %v", l, class, got)
			}
		}
	}
}

// dangerAnswers has all that is told of the dangerous boxes of a plan.
type dangerAnswers struct {
	near  []impl.Pair
	safe  [][]int
	needs [6][6]int
	apart []int
}

func dangerAnswersOf(l loading) dangerAnswers {
	a := dangerAnswers{near: l.tooNear()}
	for i := range a.needs {
		a.safe = append(a.safe, l.safeSlots(i-1))
		for j := range a.needs[i] {
			a.needs[i][j] = impl.ApartNeed(i-1, j-1)
			a.apart = append(a.apart, impl.ApartOf(l.ship, i-1, j-1))
		}
	}
	return a
}

func sameDangerAnswers(a dangerAnswers, b dangerAnswers) bool {
	return slices.Equal(a.near, b.near) && slices.EqualFunc(a.safe, b.safe, slices.Equal) && a.needs == b.needs && slices.Equal(a.apart, b.apart)
}

// overwritePairs writes to all the memory of a list, also beyond its end.
func overwritePairs(list []impl.Pair) {
	for i := range list[:cap(list)] {
		list[:cap(list)][i] = impl.Pair{A: -5, B: -6}
	}
}

// What is behind the end of the plan and of the boxes is read, too; and the answers are overwritten, so that memory shared with an argument shows.
func TestPlansWithDangersAreNotChanged(t *testing.T) {
	for _, l := range slices.Concat(fewLoadings(), smallDangers(), otherDangers()) {
		own, wholePlan, wholeBoxes := withRoom(l)
		ship := own.ship
		answers := dangerAnswersOf(own)
		overwritePairs(answers.near)
		for _, list := range answers.safe {
			overwrite(list)
		}
		if own.ship != ship || !slices.Equal(wholePlan, append(slices.Clone(l.plan), -7, -8, -9)) || !slices.Equal(wholeBoxes, append(slices.Clone(l.boxes), manyBoxes()...)) {
			t.Fatalf("%+v was changed to %+v, %v, %+v", l, own.ship, wholePlan, wholeBoxes)
		}
	}
}

// The answers of a first round are overwritten while those of a second one are read, and others are asked for in between.
func TestDangersKeepNothingFromCallToCall(t *testing.T) {
	list := slices.Concat(fewLoadings(), grownDangers(), otherWeights())
	var first, second []dangerAnswers
	for _, l := range list {
		first = append(first, dangerAnswersOf(l))
	}
	for _, l := range list {
		second = append(second, dangerAnswersOf(l))
	}
	for i := len(list) - 1; i >= 0; i-- {
		if !sameDangerAnswers(second[i], first[i]) {
			t.Fatalf("the answers for %+v are %+v, and were %+v", list[i], second[i], first[i])
		}
		overwritePairs(first[i].near)
		for j, answer := range first[i].safe {
			overwrite(answer)
			if !slices.EqualFunc(first[i].safe[j+1:], second[i].safe[j+1:], slices.Equal) {
				t.Fatalf("SafeSlots of %+v, %d shares memory with that of a later class", list[i], j-1)
			}
		}
		if again := dangerAnswersOf(list[i]); !sameDangerAnswers(again, second[i]) {
			t.Fatalf("the answers for %+v are %+v after the first ones were overwritten, not %+v", list[i], again, second[i])
		}
	}
}
