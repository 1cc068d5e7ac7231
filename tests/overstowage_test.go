package tests

import (
	"slices"
	"testing"

	"loop.example/containerport/impl"
)

func (l loading) overstows() int {
	return impl.Overstows(l.ship, l.boxes, l.plan)
}

func (l loading) portMoves(port int) []int {
	return impl.PortMoves(l.ship, l.boxes, l.plan, port)
}

func (l loading) afterPort(port int) []int {
	return impl.AfterPort(l.ship, l.boxes, l.plan, port)
}

func (l loading) voyageMoves() int {
	return impl.VoyageMoves(l.ship, l.boxes, l.plan)
}

// noPorts has numbers that are not ports: -1, MaxPort + 1, and others outside the bounds.
func noPorts() []int {
	return noSlots(7)
}

// portIn returns the port of the box in a slot that is not empty.
func portIn(l loading, slot int) int {
	return l.boxes[slices.Index(idsOf(l.boxes), l.plan[slot])].Port
}

// fullBelow has the slots below a slot, in the same row of the same bay, that are not empty.
func fullBelow(l loading, slot int) []int {
	places := placesOf(l.ship)
	at := places[slot]
	return slices.DeleteFunc(fullSlots(l), func(other int) bool {
		p := places[other]
		return p.bay != at.bay || p.row != at.row || p.tier >= at.tier
	})
}

// portsBelow has the ports of the boxes below a slot, each once.
func portsBelow(l loading, slot int) []int {
	var ports []int
	for _, lower := range fullBelow(l, slot) {
		ports = append(ports, portIn(l, lower))
	}
	slices.Sort(ports)
	return slices.Compact(ports)
}

// lesserPorts has those of some ports that are lesser than another one.
func lesserPorts(ports []int, than int) []int {
	return slices.DeleteFunc(slices.Clone(ports), func(port int) bool { return port >= than })
}

// overstowsOf goes by the document, box by box, for a valid plan.
func overstowsOf(l loading) int {
	many := 0
	for _, slot := range fullSlots(l) {
		if len(lesserPorts(portsBelow(l, slot), portIn(l, slot))) > 0 {
			many++
		}
	}
	return many
}

// slotsFor has the slots of a valid plan whose boxes are for a port.
func slotsFor(l loading, port int) []int {
	return slices.DeleteFunc(fullSlots(l), func(slot int) bool { return portIn(l, slot) != port })
}

// portMovesOf goes by the document, box by box, for a valid plan and a port.
func portMovesOf(l loading, port int) []int {
	return slices.DeleteFunc(fullSlots(l), func(slot int) bool {
		return portIn(l, slot) != port && !slices.Contains(portsBelow(l, slot), port)
	})
}

// afterPortOf goes by the document, for a valid plan and a port: a box is lower by as many as leave below it.
func afterPortOf(l loading, port int) []int {
	leaves := slotsFor(l, port)
	plan := make([]int, len(l.plan))
	for _, slot := range fullSlots(l) {
		lower := 0
		for _, other := range fullBelow(l, slot) {
			if slices.Contains(leaves, other) {
				lower++
			}
		}
		if !slices.Contains(leaves, slot) {
			plan[slot-lower] = l.plan[slot]
		}
	}
	return plan
}

// timesOff returns how often the box in a slot has to be taken off on the voyage: at its own port, and at each lesser one for which there is a box below it, as boxes of a row stay in their order.
func timesOff(l loading, slot int) int {
	return 1 + len(lesserPorts(portsBelow(l, slot), portIn(l, slot)))
}

// voyageOf counts for a valid plan how often every box has to be taken off.
func voyageOf(l loading) int {
	many := 0
	for _, slot := range fullSlots(l) {
		many += timesOff(l, slot)
	}
	return many
}

// firstPort returns the first port at which there are boxes; -1 if there are no boxes.
func firstPort(l loading) int {
	for port := range 7 {
		if len(slotsFor(l, port)) > 0 {
			return port
		}
	}
	return -1
}

// forPorts has boxes with the ids from 1 on for these ports.
func forPorts(ports ...int) []impl.Box {
	boxes := numberedBoxes(len(ports))
	for i, port := range ports {
		boxes[i].Port = port
	}
	return boxes
}

// boxesForPorts has MaxBoxes boxes, each for one of some ports.
func boxesForPorts(ports []int, next func(int) int) []impl.Box {
	boxes := manyBoxes()
	for i := range boxes {
		boxes[i].Port = ports[next(len(ports))]
	}
	return boxes
}

// stowed has the boxes of every row in another order, which is told of their slots: the lowest one is that which comes first.
func (l loading) stowed(order func(a int, b int) int) loading {
	plan := make([]int, len(l.plan))
	for _, row := range rowsOf(l.ship) {
		full := slices.DeleteFunc(slices.Clone(row), func(slot int) bool { return l.plan[slot] == 0 })
		slices.SortStableFunc(full, order)
		for tier, slot := range full {
			plan[row[tier]] = l.plan[slot]
		}
	}
	return l.with(plan)
}

// withoutOverstows has the boxes for later ports lower.
func (l loading) withoutOverstows() loading {
	return l.stowed(func(a int, b int) int { return portIn(l, b) - portIn(l, a) })
}

// withMostOverstows has the boxes for later ports higher.
func (l loading) withMostOverstows() loading {
	return l.stowed(func(a int, b int) int { return portIn(l, a) - portIn(l, b) })
}

// portsLists has lists of many ports, each one of some.
func portsLists(many int, some []int) [][]int {
	lists := [][]int{nil}
	for range many {
		var longer [][]int
		for _, list := range lists {
			for _, port := range some {
				longer = append(longer, append(slices.Clone(list), port))
			}
		}
		lists = longer
	}
	return lists
}

// smallVoyages has rows of every height with boxes for all ports, and two rows beside each other, in one bay and in two, with boxes for some.
func smallVoyages() []loading {
	var list []loading
	for many := range 4 {
		for _, ports := range portsLists(many, []int{0, 1, 2, 3, 4, 5, 6}) {
			plan := make([]int, 3)
			copy(plan, numberedIds(many))
			list = append(list, loading{impl.Hull{Bays: 1, Rows: 1, Tiers: 3}, forPorts(ports...), plan})
		}
	}
	for _, h := range []impl.Hull{{Bays: 1, Rows: 2, Tiers: 2}, {Bays: 2, Rows: 1, Tiers: 2}} {
		for _, ports := range portsLists(4, []int{0, 2, 5, 6}) {
			l := loading{h, forPorts(ports...), []int{1, 2, 3, 4}}
			list = append(list, l, l.with([]int{4, 0, 2, 1}), l.with([]int{3, 1, 0, 0}))
		}
	}
	return list
}

// grownVoyages has plans of all ships with every number of boxes up to MaxBoxes, for one port, two, some and all.
func grownVoyages() []loading {
	var list []loading
	for i, h := range validShips() {
		next := numbersFrom(uint32(400 + i))
		for many := range min(10, len(placesOf(h))) + 1 {
			for _, ports := range [][]int{{next(7)}, {0, 6}, {1, 2, 4}, {0, 1, 2, 3, 4, 5, 6}} {
				list = append(list, grownLoading(h, boxesForPorts(ports, next), many, next))
			}
		}
	}
	return list
}

// voyages has all valid plans for which overstowage is tested: also those with the boxes of every row in the best and in the worst order.
func voyages() []loading {
	list := smallVoyages()
	for _, l := range append(validLoadings(), grownVoyages()...) {
		list = append(list, l, l.withoutOverstows(), l.withMostOverstows())
	}
	return list
}

// knownVoyage is a valid plan with what is known of it, all worked out by hand: off has, for the ports at which boxes are taken off as the plan is, their slots, and after the plans behind these ports.
type knownVoyage struct {
	loading
	overstows int
	off       map[int][]int
	after     map[int][]int
	voyage    int
}

// knownTowers has one row of up to three boxes.
func knownTowers() []knownVoyage {
	tower := func(ports ...int) loading {
		return loading{impl.Hull{Bays: 1, Rows: 1, Tiers: 3}, forPorts(ports...), []int{1, 2, 3}}
	}
	return []knownVoyage{
		// The lesser port in the lowest tier, in the middle and highest: two boxes above it, one and none.
		{tower(1, 4, 4), 2, map[int][]int{1: {0, 1, 2}, 4: {1, 2}}, map[int][]int{1: {2, 3, 0}, 4: {1, 0, 0}}, 5},
		{tower(4, 1, 4), 1, map[int][]int{1: {1, 2}, 4: {0, 1, 2}}, map[int][]int{1: {1, 3, 0}, 4: {2, 0, 0}}, 4},
		{tower(4, 4, 1), 0, map[int][]int{1: {2}, 4: {0, 1, 2}}, map[int][]int{1: {1, 2, 0}, 4: {3, 0, 0}}, 3},
		// Above two boxes of lesser ports, which are different ones or the same.
		{tower(1, 2, 3), 2, map[int][]int{1: {0, 1, 2}, 2: {1, 2}, 3: {2}}, map[int][]int{1: {2, 3, 0}, 2: {1, 3, 0}, 3: {1, 2, 0}}, 6},
		{tower(2, 1, 3), 1, map[int][]int{1: {1, 2}, 2: {0, 1, 2}, 3: {2}}, map[int][]int{1: {1, 3, 0}, 2: {2, 3, 0}, 3: {1, 2, 0}}, 5},
		{tower(1, 1, 2), 1, map[int][]int{1: {0, 1, 2}, 2: {2}}, map[int][]int{1: {3, 0, 0}, 2: {1, 2, 0}}, 4},
		// Above a box of a greater port, which is above one of a lesser port.
		{tower(1, 3, 2), 2, map[int][]int{1: {0, 1, 2}, 2: {2}, 3: {1, 2}}, map[int][]int{1: {2, 3, 0}, 2: {1, 2, 0}, 3: {1, 3, 0}}, 5},
		// The least port is not that of the lowest box.
		{tower(3, 1, 2), 1, map[int][]int{1: {1, 2}, 2: {2}, 3: {0, 1, 2}}, map[int][]int{1: {1, 3, 0}, 2: {1, 2, 0}, 3: {2, 3, 0}}, 4},
		{tower(2, 3, 1), 1, map[int][]int{1: {2}, 2: {0, 1, 2}, 3: {1, 2}}, map[int][]int{1: {1, 2, 0}, 2: {2, 3, 0}, 3: {1, 3, 0}}, 4},
		// In the order of the ports.
		{tower(3, 2, 1), 0, map[int][]int{1: {2}, 2: {1, 2}, 3: {0, 1, 2}}, map[int][]int{1: {1, 2, 0}, 2: {1, 3, 0}, 3: {2, 3, 0}}, 3},
		// All for the same port, at which everything is taken off, and each box once.
		{tower(2, 2, 2), 0, map[int][]int{2: {0, 1, 2}}, map[int][]int{2: {0, 0, 0}}, 3},
		{tower(0, 0, 0), 0, map[int][]int{0: {0, 1, 2}}, map[int][]int{0: {0, 0, 0}}, 3},
		{tower(6, 6, 6), 0, map[int][]int{6: {0, 1, 2}}, map[int][]int{6: {0, 0, 0}}, 3},
		// Above a box of its own port, with another one between them.
		{tower(0, 6, 0), 1, map[int][]int{0: {0, 1, 2}, 6: {1, 2}}, map[int][]int{0: {2, 0, 0}, 6: {1, 3, 0}}, 4},
		{tower(6, 0, 6), 1, map[int][]int{0: {1, 2}, 6: {0, 1, 2}}, map[int][]int{0: {1, 3, 0}, 6: {2, 0, 0}}, 4},
		// Less than three boxes.
		{tower(1, 2).with([]int{1, 2, 0}), 1, map[int][]int{1: {0, 1}, 2: {1}}, map[int][]int{1: {2, 0, 0}, 2: {1, 0, 0}}, 3},
		{tower(1, 2).with([]int{2, 1, 0}), 0, map[int][]int{1: {1}, 2: {0, 1}}, map[int][]int{1: {2, 0, 0}, 2: {1, 0, 0}}, 2},
		{tower(1, 2).with([]int{1, 0, 0}), 0, map[int][]int{1: {0}}, map[int][]int{1: {0, 0, 0}}, 1},
		// The boxes on the quay do not matter.
		{tower(3, 1, 0, 6, 3).with([]int{1, 5, 0}), 0, map[int][]int{3: {0, 1}}, map[int][]int{3: {0, 0, 0}}, 2},
	}
}

func knownVoyages() []knownVoyage {
	ship := func(bays int, rows int, tiers int) impl.Hull {
		return impl.Hull{Bays: bays, Rows: rows, Tiers: tiers}
	}
	none := map[int][]int{}
	three, ten := forPorts(3, 0, 6), manyBoxes()
	return append(knownTowers(), []knownVoyage{
		// No boxes on the ship.
		{loading{oneSlot, three, []int{0}}, 0, none, none, 0},
		{loading{oneSlot, nil, []int{0}}, 0, none, none, 0},
		{loading{mostSlots, ten, make([]int, 36)}, 0, none, none, 0},
		// One slot.
		{loading{oneSlot, three, []int{1}}, 0, map[int][]int{3: {0}}, map[int][]int{3: {0}}, 1},
		{loading{oneSlot, three, []int{2}}, 0, map[int][]int{0: {0}}, map[int][]int{0: {0}}, 1},
		{loading{oneSlot, three, []int{3}}, 0, map[int][]int{6: {0}}, map[int][]int{6: {0}}, 1},
		// One tier, where no box is above another one.
		{loading{ship(2, 2, 1), forPorts(5, 0, 6, 5), []int{1, 2, 3, 4}}, 0, map[int][]int{0: {1}, 5: {0, 3}, 6: {2}}, map[int][]int{0: {1, 0, 3, 4}, 5: {0, 2, 3, 0}, 6: {1, 2, 0, 4}}, 4},
		{loading{ship(1, 3, 1), three, []int{2, 0, 3}}, 0, map[int][]int{0: {0}, 6: {2}}, map[int][]int{0: {0, 0, 3}, 6: {2, 0, 0}}, 2},
		// Rows beside each other, in one bay and in two: no box is above one of the other row.
		{loading{ship(1, 2, 2), forPorts(1, 0, 6, 5), []int{1, 2, 3, 4}}, 0, map[int][]int{0: {1}, 1: {0, 1}, 5: {3}, 6: {2, 3}}, map[int][]int{0: {1, 0, 3, 4}, 1: {2, 0, 3, 4}, 5: {1, 2, 3, 0}, 6: {1, 2, 4, 0}}, 4},
		{loading{ship(2, 1, 2), forPorts(1, 0, 6, 5), []int{1, 2, 3, 4}}, 0, map[int][]int{0: {1}, 1: {0, 1}, 5: {3}, 6: {2, 3}}, map[int][]int{0: {1, 0, 3, 4}, 1: {2, 0, 3, 4}, 5: {1, 2, 3, 0}, 6: {1, 2, 4, 0}}, 4},
		{loading{ship(2, 1, 2), forPorts(0, 1, 2), []int{3, 1, 2, 0}}, 0, map[int][]int{0: {1}, 1: {2}, 2: {0, 1}}, map[int][]int{0: {3, 0, 2, 0}, 1: {3, 1, 0, 0}, 2: {1, 0, 2, 0}}, 3},
		// A row between others that is empty.
		{loading{ship(1, 3, 2), forPorts(1, 2, 1, 2), []int{1, 2, 0, 0, 4, 3}}, 1, map[int][]int{1: {0, 1, 5}, 2: {1, 4, 5}}, map[int][]int{1: {2, 0, 0, 0, 4, 0}, 2: {1, 0, 0, 0, 3, 0}}, 5},
		{loading{ship(1, 2, 3), forPorts(2, 4, 1, 2), []int{1, 2, 3, 4, 0, 0}}, 1, map[int][]int{1: {2}, 2: {0, 1, 2, 3}, 4: {1, 2}}, map[int][]int{1: {1, 2, 0, 4, 0, 0}, 2: {2, 3, 0, 0, 0, 0}, 4: {1, 3, 0, 4, 0, 0}}, 5},
		// Full ships: for many ports, and for one.
		{
			loading{ship(1, 3, 3), forPorts(0, 3, 6, 6, 3, 0, 2, 2, 5, 3), []int{1, 2, 3, 4, 5, 6, 7, 8, 9}}, 3,
			map[int][]int{0: {0, 1, 2, 5}, 2: {6, 7, 8}, 3: {1, 2, 4, 5}, 5: {8}, 6: {2, 3, 4, 5}},
			map[int][]int{0: {2, 3, 0, 4, 5, 0, 7, 8, 9}, 2: {1, 2, 3, 4, 5, 6, 9, 0, 0}, 3: {1, 3, 0, 4, 6, 0, 7, 8, 9}, 5: {1, 2, 3, 4, 5, 6, 7, 8, 0}, 6: {1, 2, 0, 5, 6, 0, 7, 8, 9}}, 13,
		},
		{loading{ship(1, 3, 2), numberedBoxes(10), []int{10, 9, 8, 7, 6, 5}}, 0, map[int][]int{0: {0, 1, 2, 3, 4, 5}}, map[int][]int{0: make([]int, 6)}, 6},
		{loading{ship(2, 1, 2), forPorts(6, 6, 6, 6), []int{2, 1, 4, 3}}, 0, map[int][]int{6: {0, 1, 2, 3}}, map[int][]int{6: make([]int, 4)}, 4},
		// MaxBoxes boxes, for the ports 2 6 0, 0 6 3, 0 4 0 and 5 of each row, and all of them for one port.
		{
			loading{ship(2, 2, 3), ten, []int{500, 999, 1, 2, 998, 17, 4, 40, 400, 50, 0, 0}}, 4,
			map[int][]int{0: {2, 3, 4, 5, 6, 7, 8}, 2: {0, 1, 2}, 3: {5}, 4: {7, 8}, 5: {9}, 6: {1, 2, 4, 5}},
			map[int][]int{
				0: {500, 999, 0, 998, 17, 0, 40, 0, 0, 50, 0, 0}, 2: {999, 1, 0, 2, 998, 17, 4, 40, 400, 50, 0, 0}, 3: {500, 999, 1, 2, 998, 0, 4, 40, 400, 50, 0, 0},
				4: {500, 999, 1, 2, 998, 17, 4, 400, 0, 50, 0, 0}, 5: {500, 999, 1, 2, 998, 17, 4, 40, 400, 0, 0, 0}, 6: {500, 1, 0, 2, 17, 0, 4, 40, 400, 50, 0, 0},
			}, 14,
		},
		{loading{ship(4, 1, 3), forPorts(6, 6, 6, 6, 6, 6, 6, 6, 6, 6), []int{1, 2, 3, 4, 5, 6, 7, 8, 9, 10, 0, 0}}, 0, map[int][]int{6: {0, 1, 2, 3, 4, 5, 6, 7, 8, 9}}, map[int][]int{6: make([]int, 12)}, 10},
	}...)
}

func TestOverstowsOfKnownPlans(t *testing.T) {
	for _, k := range knownVoyages() {
		if got := k.loading.overstows(); got != k.overstows {
			t.Errorf("Overstows of %+v is %d, not %d", k.loading, got, k.overstows)
		}
	}
}

func TestPortMovesOfKnownPlans(t *testing.T) {
	for _, k := range knownVoyages() {
		for port := range 7 {
			if got := k.portMoves(port); !slices.Equal(got, k.off[port]) {
				t.Errorf("PortMoves of %+v, %d is %v, not %v", k.loading, port, got, k.off[port])
			}
		}
	}
}

func TestAfterPortOfKnownPlans(t *testing.T) {
	for _, k := range knownVoyages() {
		for port := range 7 {
			want, ok := k.after[port]
			if !ok {
				want = k.plan
			}
			if got := k.afterPort(port); !slices.Equal(got, want) {
				t.Errorf("AfterPort of %+v, %d is %v, not %v", k.loading, port, got, want)
			}
		}
	}
}

func TestVoyageMovesOfKnownPlans(t *testing.T) {
	for _, k := range knownVoyages() {
		if got := k.voyageMoves(); got != k.voyage {
			t.Errorf("VoyageMoves of %+v is %d, not %d", k.loading, got, k.voyage)
		}
	}
}

// Of all plans every answer is held against the document.
func TestOverstowageOfValidPlans(t *testing.T) {
	for _, l := range voyages() {
		if got, want := l.overstows(), overstowsOf(l); got != want {
			t.Fatalf("Overstows of %+v is %d, not %d", l, got, want)
		}
		if got, want := l.voyageMoves(), voyageOf(l); got != want {
			t.Fatalf("VoyageMoves of %+v is %d, not %d", l, got, want)
		}
		for port := range 7 {
			if got, want := l.portMoves(port), portMovesOf(l, port); !slices.Equal(got, want) {
				t.Fatalf("PortMoves of %+v, %d is %v, not %v", l, port, got, want)
			}
			if got, want := l.afterPort(port), afterPortOf(l, port); !slices.Equal(got, want) {
				t.Fatalf("AfterPort of %+v, %d is %v, not %v", l, port, got, want)
			}
		}
	}
}

func TestP7WithoutOverstowageNothingIsMovedForNothing(t *testing.T) {
	without, with := 0, 0
	for _, l := range voyages() {
		for port := range 7 {
			moves := l.portMoves(port)
			for _, slot := range slotsFor(l, port) {
				if !slices.Contains(moves, slot) {
					t.Fatalf("PortMoves of %+v, %d is %v, without %d", l, port, moves, slot)
				}
			}
		}
		first := firstPort(l)
		if first == -1 {
			continue
		}
		if l.overstows() > 0 {
			with++
			continue
		}
		without++
		if moves, own := l.portMoves(first), slotsFor(l, first); !slices.Equal(moves, own) {
			t.Fatalf("there are no Overstows of %+v, but PortMoves at %d is %v, and not %v alone", l, first, moves, own)
		}
	}
	if without < 1000 || with < 1000 {
		t.Fatalf("%d plans are without overstowage, %d with it", without, with)
	}
}

// With overstowage something is moved for nothing: every box that lies above one of a lesser port, at that port.
func TestP7OfPlansWithOverstowage(t *testing.T) {
	for _, l := range smallVoyages() {
		if l.overstows() == 0 {
			continue
		}
		moved := 0
		for port := range 7 {
			for _, slot := range l.portMoves(port) {
				if portIn(l, slot) > port {
					moved++
				}
			}
		}
		if moved < l.overstows() {
			t.Fatalf("Overstows of %+v is %d, but only %d boxes are moved before their ports", l, l.overstows(), moved)
		}
	}
}

// onVoyage goes from port to port, and tells how often every box is taken off, by its id.
func onVoyage(l loading) map[int]int {
	times := map[int]int{}
	for port := range 7 {
		for _, slot := range l.portMoves(port) {
			times[l.plan[slot]]++
		}
		l = l.with(l.afterPort(port))
	}
	return times
}

func TestP8AVoyageWithoutOverstowageNeedsOneMoveForEachBox(t *testing.T) {
	for _, l := range voyages() {
		times := onVoyage(l)
		overstows, moves, sum := l.overstows(), l.voyageMoves(), 0
		for _, slot := range fullSlots(l) {
			id := l.plan[slot]
			sum += times[id]
			if times[id] < 1 || overstows == 0 && times[id] != 1 || times[id] != timesOff(l, slot) {
				t.Fatalf("Overstows of %+v is %d, and %d is taken off %d times, not %d", l, overstows, id, times[id], timesOff(l, slot))
			}
		}
		many := len(fullSlots(l))
		if moves != sum || moves < many || (moves == many) != (overstows == 0) {
			t.Fatalf("VoyageMoves of %+v is %d, and Overstows is %d, but %d boxes are taken off %d times", l, moves, overstows, many, sum)
		}
	}
}

// Behind the last port there is no box left on the ship.
func TestP8TheShipIsEmptyInTheEnd(t *testing.T) {
	for _, l := range voyages() {
		now := l
		for port := range 7 {
			now = now.with(now.afterPort(port))
			if again := now.portMoves(port); len(again) != 0 {
				t.Fatalf("PortMoves of %+v, behind the port %d, is %v there", now, port, again)
			}
			for earlier := range port {
				if moves := now.portMoves(earlier); len(moves) != 0 {
					t.Fatalf("PortMoves of %+v, behind the port %d, is %v at %d", now, port, moves, earlier)
				}
			}
		}
		if !slices.Equal(now.plan, impl.PlanEmpty(l.ship)) {
			t.Fatalf("behind all ports %+v is %v", l, now.plan)
		}
	}
}

func TestP81WithAllBoxesForOnePortNothingLiesInTheWay(t *testing.T) {
	for _, l := range voyages() {
		for port := range 7 {
			boxes := slices.Clone(l.boxes)
			for i := range boxes {
				boxes[i].Port = port
			}
			one := l.withBoxes(boxes)
			if got := one.overstows(); got != 0 {
				t.Fatalf("Overstows of %+v is %d, though all are for one port", one, got)
			}
			if got, want := one.voyageMoves(), len(fullSlots(l)); got != want {
				t.Fatalf("VoyageMoves of %+v is %d, not %d", one, got, want)
			}
		}
	}
}

func TestP81BehindTheFirstPortThereIsNoMoreInTheWay(t *testing.T) {
	less := 0
	for _, l := range voyages() {
		first := firstPort(l)
		if first == -1 {
			continue
		}
		before := l.overstows()
		after := l.with(l.afterPort(first)).overstows()
		if after < 0 || after > before {
			t.Fatalf("Overstows of %+v is %d, and behind the first port, %d, it is %d", l, before, first, after)
		}
		if after < before {
			less++
		}
	}
	if less < 1000 {
		t.Fatalf("only %d plans have less overstowage behind the first port", less)
	}
}

func TestP82AllOthersStayOnTheShip(t *testing.T) {
	for _, l := range voyages() {
		for port := range 7 {
			after := l.with(l.afterPort(port))
			if !after.valid() || !planIsValid(after) {
				t.Fatalf("AfterPort of %+v, %d is %v, which is not valid", l, port, after.plan)
			}
			if left := slotsFor(after, port); len(left) != 0 {
				t.Fatalf("AfterPort of %+v, %d is %v, with boxes for the port in %v", l, port, after.plan, left)
			}
			if many, want := len(fullSlots(after)), len(fullSlots(l))-len(slotsFor(l, port)); many != want {
				t.Fatalf("AfterPort of %+v, %d is %v, with %d boxes, not %d", l, port, after.plan, many, want)
			}
			for _, slot := range fullSlots(l) {
				if portIn(l, slot) == port {
					continue
				}
				from, to := placeOf(l.ship, slot), placeOf(l.ship, after.find(l.plan[slot]))
				if to.bay != from.bay || to.row != from.row || to.tier > from.tier {
					t.Fatalf("AfterPort of %+v, %d is %v: %d is at %+v, and was at %+v", l, port, after.plan, l.plan[slot], to, from)
				}
			}
		}
	}
}

// The boxes of a row that stay are in the order in which they were.
func TestP82InTheSameOrder(t *testing.T) {
	for _, l := range voyages() {
		for port := range 7 {
			after := l.afterPort(port)
			for _, row := range rowsOf(l.ship) {
				var stay, now []int
				for _, slot := range row {
					if l.plan[slot] != 0 && portIn(l, slot) != port {
						stay = append(stay, l.plan[slot])
					}
					if after[slot] != 0 {
						now = append(now, after[slot])
					}
				}
				if !slices.Equal(now, stay) {
					t.Fatalf("AfterPort of %+v, %d is %v: a row has %v, not %v", l, port, after, now, stay)
				}
			}
		}
	}
}

// At a port for which there is no box, nothing is taken off, and the plan stays as it is.
func TestPortsWithoutBoxes(t *testing.T) {
	many := 0
	for _, l := range voyages() {
		for port := range 7 {
			if len(slotsFor(l, port)) > 0 {
				continue
			}
			many++
			if moves := l.portMoves(port); len(moves) != 0 {
				t.Fatalf("PortMoves of %+v, %d is %v", l, port, moves)
			}
			if after := l.afterPort(port); !slices.Equal(after, l.plan) {
				t.Fatalf("AfterPort of %+v, %d is %v", l, port, after)
			}
		}
	}
	if many < 1000 {
		t.Fatalf("only %d ports are without boxes", many)
	}
}

func TestNumbersThatAreNoPorts(t *testing.T) {
	for _, port := range []int{-1, impl.MaxPort + 1} {
		if !slices.Contains(noPorts(), port) {
			t.Fatalf("%d is not among %v", port, noPorts())
		}
	}
	for _, l := range append(fewLoadings(), grownVoyages()...) {
		for _, port := range noPorts() {
			if got := l.portMoves(port); len(got) != 0 {
				t.Fatalf("PortMoves of %+v, %d is %v", l, port, got)
			}
			if got := l.afterPort(port); len(got) != 0 {
				t.Fatalf("AfterPort of %+v, %d is %v", l, port, got)
			}
		}
	}
}

func TestOverstowageOfOtherPlans(t *testing.T) {
	for _, l := range otherLoadings() {
		if got := l.overstows(); got != -1 {
			t.Fatalf("Overstows of %+v is %d, not -1", l, got)
		}
		if got := l.voyageMoves(); got != -1 {
			t.Fatalf("VoyageMoves of %+v is %d, not -1", l, got)
		}
		for _, port := range []int{0, 1, 2, 3, 4, 5, 6, -1, 7} {
			if got := l.portMoves(port); len(got) != 0 {
				t.Fatalf("PortMoves of %+v, %d is %v", l, port, got)
			}
			if got := l.afterPort(port); len(got) != 0 {
				t.Fatalf("AfterPort of %+v, %d is %v", l, port, got)
			}
		}
	}
}

// voyageAnswers has all that is told of the overstowage of a plan.
type voyageAnswers struct {
	overstows, voyage int
	lists             [][]int
}

func voyageAnswersOf(l loading) voyageAnswers {
	a := voyageAnswers{l.overstows(), l.voyageMoves(), nil}
	for port := -1; port <= 7; port++ {
		a.lists = append(a.lists, l.portMoves(port), l.afterPort(port))
	}
	return a
}

func sameVoyageAnswers(a voyageAnswers, b voyageAnswers) bool {
	return a.overstows == b.overstows && a.voyage == b.voyage && slices.EqualFunc(a.lists, b.lists, slices.Equal)
}

// What is behind the end of the plan and of the boxes is read, too; and the answers are overwritten, so that memory shared with an argument shows.
func TestPlansOnVoyagesAreNotChanged(t *testing.T) {
	for _, l := range slices.Concat(fewLoadings(), smallVoyages(), otherLoadings()) {
		own, wholePlan, wholeBoxes := withRoom(l)
		ship := own.ship
		answers := voyageAnswersOf(own)
		for _, list := range answers.lists {
			overwrite(list)
		}
		if own.ship != ship || !slices.Equal(wholePlan, append(slices.Clone(l.plan), -7, -8, -9)) || !slices.Equal(wholeBoxes, append(slices.Clone(l.boxes), manyBoxes()...)) {
			t.Fatalf("%+v was changed to %+v, %v, %+v", l, own.ship, wholePlan, wholeBoxes)
		}
	}
}

// The answers of a first round are overwritten while those of a second one are read, and others are asked for in between.
func TestVoyagesKeepNothingFromCallToCall(t *testing.T) {
	list := slices.Concat(fewLoadings(), grownVoyages(), otherWeights())
	var first, second []voyageAnswers
	for _, l := range list {
		first = append(first, voyageAnswersOf(l))
	}
	for _, l := range list {
		second = append(second, voyageAnswersOf(l))
	}
	for i := len(list) - 1; i >= 0; i-- {
		if !sameVoyageAnswers(second[i], first[i]) {
			t.Fatalf("the answers for %+v are %+v, and were %+v", list[i], second[i], first[i])
		}
		for j, answer := range first[i].lists {
			overwrite(answer)
			if !slices.EqualFunc(first[i].lists[j+1:], second[i].lists[j+1:], slices.Equal) {
				t.Fatalf("the answer %d for %+v shares memory with a later one", j, list[i])
			}
		}
		if again := voyageAnswersOf(list[i]); !sameVoyageAnswers(again, second[i]) {
			t.Fatalf("the answers for %+v are %+v after the first ones were overwritten, not %+v", list[i], again, second[i])
		}
	}
}
