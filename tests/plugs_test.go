package tests

import (
	"slices"
	"testing"

	"loop.example/containerport/impl"
)

// allSix has all plugs.
var allSix = []int{0, 1, 2, 3, 4, 5}

// noPlugs has numbers that are not plugs: -1, MaxPlugs, and others outside the bounds.
func noPlugs() []int {
	return noSlots(6)
}

// usesAreValid goes by the document.
func usesAreValid(uses [][]int) bool {
	for _, list := range uses {
		ascending := slices.Compact(slices.Sorted(slices.Values(list)))
		if !slices.Equal(list, ascending) || slices.ContainsFunc(list, func(plug int) bool { return plug < 0 || plug > 5 }) {
			return false
		}
	}
	return len(uses) <= 6
}

// plugsAreValid goes by the document, for valid uses.
func plugsAreValid(uses [][]int, plugs []int) bool {
	if len(plugs) != len(uses) {
		return false
	}
	times := map[int]int{}
	for box, plug := range plugs {
		times[plug]++
		if plug != -1 && (!slices.Contains(uses[box], plug) || times[plug] > 1) {
			return false
		}
	}
	return true
}

// everyPlugs has all valid plugs for valid uses, by the document.
func everyPlugs(uses [][]int) [][]int {
	plugs := [][]int{nil}
	for _, list := range uses {
		var longer [][]int
		for _, first := range plugs {
			for _, plug := range append([]int{-1}, list...) {
				if plug == -1 || !slices.Contains(first, plug) {
					longer = append(longer, append(slices.Clone(first), plug))
				}
			}
		}
		plugs = longer
	}
	return plugs
}

// manyPlugged counts what is not -1.
func manyPlugged(plugs []int) int {
	return len(slices.DeleteFunc(slices.Clone(plugs), func(plug int) bool { return plug == -1 }))
}

// arePlugsBetter goes by the document, for two valid plugs for the same uses.
func arePlugsBetter(plugs []int, others []int) bool {
	if one, other := manyPlugged(plugs), manyPlugged(others); one != other {
		return one > other
	}
	for box, plug := range plugs {
		if other := others[box]; plug != other {
			return other == -1 || plug != -1 && plug < other
		}
	}
	return false
}

// bestPlugsOf looks through all valid plugs for valid uses.
func bestPlugsOf(uses [][]int) []int {
	every := everyPlugs(uses)
	best := every[0]
	for _, plugs := range every[1:] {
		if arePlugsBetter(plugs, best) {
			best = plugs
		}
	}
	return best
}

// plugsOf goes by the document, for valid uses and indices of them.
func plugsOf(uses [][]int, some []int) []int {
	return slices.DeleteFunc(slices.Clone(allSix), func(plug int) bool {
		return !slices.ContainsFunc(some, func(box int) bool { return slices.Contains(uses[box], plug) })
	})
}

// partsOf has all lists that are left of a list when some of it are taken out, none and all among them.
func partsOf(list []int) [][]int {
	parts := [][]int{nil}
	for _, number := range list {
		for _, part := range parts {
			parts = append(parts, append(slices.Clone(part), number))
		}
	}
	return parts
}

// indicesOf has the indices of all lists.
func indicesOf(uses [][]int) []int {
	var list []int
	for i := range uses {
		list = append(list, i)
	}
	return list
}

// usesOf has all uses of so many lists, each one of some.
func usesOf(many int, lists [][]int) [][][]int {
	every := [][][]int{nil}
	for range many {
		var longer [][][]int
		for _, uses := range every {
			for _, list := range lists {
				longer = append(longer, append(slices.Clone(uses), list))
			}
		}
		every = longer
	}
	return every
}

// smallUses has all uses of at most two lists, of three and four lists of three plugs, and of five and six lists of two.
func smallUses() [][][]int {
	three := partsOf([]int{0, 3, 5})
	two := partsOf([]int{1, 2})
	return slices.Concat(usesOf(0, nil), usesOf(1, partsOf(allSix)), usesOf(2, partsOf(allSix)), usesOf(3, three), usesOf(4, three), usesOf(5, two), usesOf(6, two))
}

// grownUses has uses of three to six lists, those that have few plugs and those that have many.
func grownUses() [][][]int {
	next := numbersFrom(700)
	var every [][][]int
	for i := range 1200 {
		var uses [][]int
		rare := 2 + i%5
		for range 3 + i%4 {
			uses = append(uses, slices.DeleteFunc(slices.Clone(allSix), func(int) bool { return next(rare) > 0 && next(4) > 0 }))
		}
		every = append(every, uses)
	}
	return every
}

// knownUses are valid uses with their best plugs, all worked out by hand.
type knownUses struct {
	uses [][]int
	best []int
}

// chain has a list for each plug up to the last one, with that plug and the next one, and at the end one with the plug 0 alone, for which all others have to change theirs.
func chain(last int) [][]int {
	var uses [][]int
	for plug := range last {
		uses = append(uses, []int{plug, plug + 1})
	}
	return append(uses, []int{0})
}

// knownFew has uses of no box, of one, and of boxes without a plug that they can use.
func knownFew() []knownUses {
	return []knownUses{
		{nil, nil},
		{[][]int{}, nil},
		{[][]int{nil}, []int{-1}},
		{[][]int{{}}, []int{-1}},
		{[][]int{{0}}, []int{0}},
		{[][]int{{5}}, []int{5}},
		{[][]int{{2, 4}}, []int{2}},
		{[][]int{{0, 1, 2, 3, 4, 5}}, []int{0}},
		{[][]int{{0, 1, 2, 3, 4, 5}, {0, 1, 2, 3, 4, 5}}, []int{0, 1}},
		// The first plug and the last one.
		{[][]int{{0}, {5}}, []int{0, 5}},
		{[][]int{{5}, {0}}, []int{5, 0}},
		{[][]int{{0, 5}, {5}}, []int{0, 5}},
		{[][]int{{0, 5}, {0}}, []int{5, 0}},
		// A box that can use no plug: the first one, one in the middle, and the last one.
		{[][]int{{}, {0}, {1}}, []int{-1, 0, 1}},
		{[][]int{nil, {0, 1}, {0}}, []int{-1, 1, 0}},
		{[][]int{{0}, {}, {1}}, []int{0, -1, 1}},
		{[][]int{{0, 1}, nil, {0}}, []int{1, -1, 0}},
		{[][]int{{0}, {1}, {}}, []int{0, 1, -1}},
		{[][]int{{3, 4}, {3}, nil}, []int{4, 3, -1}},
		{[][]int{{}, {}, {4}, {}, {}, {}}, []int{-1, -1, 4, -1, -1, -1}},
		// No box can use a plug.
		{[][]int{{}, nil}, []int{-1, -1}},
		{[][]int{{}, {}, {}, {}, {}, {}}, []int{-1, -1, -1, -1, -1, -1}},
		{[][]int{nil, nil, nil, nil, nil, nil}, []int{-1, -1, -1, -1, -1, -1}},
	}
}

// knownCrowds has uses of boxes that can use the same plugs.
func knownCrowds() []knownUses {
	same := func(many int, plugs ...int) [][]int {
		return slices.Repeat([][]int{plugs}, many)
	}
	return []knownUses{
		// All boxes can use the same one plug, and all boxes all plugs.
		{same(2, 0), []int{0, -1}},
		{same(6, 0), []int{0, -1, -1, -1, -1, -1}},
		{same(6, 5), []int{5, -1, -1, -1, -1, -1}},
		{same(4, 0, 1, 2, 3, 4, 5), []int{0, 1, 2, 3}},
		{same(6, 0, 1, 2, 3, 4, 5), allSix},
		{same(6, 1, 4), []int{1, 4, -1, -1, -1, -1}},
		{same(6, 1, 2, 3, 4, 5), []int{1, 2, 3, 4, 5, -1}},
		// Plugs that nobody can use: 0, those in the middle, and 5.
		{[][]int{{1}, {2, 5}, {5}}, []int{1, 2, 5}},
		{[][]int{{3, 4}, {4}}, []int{3, 4}},
		// One box for each plug, in the order of the plugs and in the other one.
		{[][]int{{0}, {1}, {2}, {3}, {4}, {5}}, allSix},
		{[][]int{{5}, {4}, {3}, {2}, {1}, {0}}, []int{5, 4, 3, 2, 1, 0}},
		{[][]int{{0, 1, 2, 3, 4, 5}, {0, 1, 2, 3, 4}, {0, 1, 2, 3}, {0, 1, 2}, {0, 1}, {0}}, []int{5, 4, 3, 2, 1, 0}},
		{[][]int{{0}, {0, 1}, {0, 1, 2}, {0, 1, 2, 3}, {0, 1, 2, 3, 4}, {0, 1, 2, 3, 4, 5}}, allSix},
	}
}

// knownChanges has uses of boxes for which others have to change their plugs.
func knownChanges() []knownUses {
	return []knownUses{
		// One has to change, and several ones in a row.
		{[][]int{{0, 1}, {0}}, []int{1, 0}},
		{[][]int{{0, 1}, {0, 1}, {0, 2}}, []int{0, 1, 2}},
		{[][]int{{0, 1}, {0, 2}, {0}}, []int{1, 2, 0}},
		{chain(2), []int{1, 2, 0}},
		{chain(3), []int{1, 2, 3, 0}},
		{chain(5), []int{1, 2, 3, 4, 5, 0}},
		{[][]int{{0, 5}, {4, 5}, {3, 4}, {2, 3}, {1, 2}, {0}}, []int{5, 4, 3, 2, 1, 0}},
		{[][]int{{1}, {0, 1}, {0, 2}, {2, 3}}, []int{1, 0, 2, 3}},
		{[][]int{{3, 4}, {1, 3}, {1, 2}, {3}, {2}}, []int{4, 1, 2, 3, -1}},
		// One changes, but still one is left over.
		{[][]int{{0, 1}, {0}, {0}, {3}}, []int{1, 0, -1, 3}},
		{[][]int{{0, 1}, {0}, {1}, {0, 1}}, []int{0, -1, 1, -1}},
		// Of several best ones the lesser plug at the first difference.
		{[][]int{{1, 3}, {1, 3}}, []int{1, 3}},
		{[][]int{{0, 1}, {0, 2}}, []int{0, 2}},
		{[][]int{{0, 1}, {0, 1}, {0, 1, 2}}, []int{0, 1, 2}},
		{[][]int{{0, 1, 2}, {0, 1, 2}, {0, 1}}, []int{0, 2, 1}},
		{[][]int{{0, 2}, {0, 1}, {1, 2}}, []int{0, 1, 2}},
		{[][]int{{2, 5}, {0, 2}, {0, 1, 5}, {5}}, []int{2, 0, 1, 5}},
		// An early box is left over, though it could be plugged in if another one were left over instead.
		{[][]int{{0, 1}, {0}, {1}}, []int{0, -1, 1}},
		{[][]int{{0}, {0}, {1}, {2}}, []int{0, -1, 1, 2}},
		{[][]int{{2, 3}, {2, 3}, {2}, {4}, {5}, {0}}, []int{2, 3, -1, 4, 5, 0}},
		{[][]int{{0, 1, 2}, {0, 1}, {0}, {1, 2}, {2}}, []int{0, 1, -1, 2, -1}},
		{[][]int{{1, 2}, {0, 2}, {0, 1}, {0, 1, 2}}, []int{1, 0, -1, 2}},
		// Only the last box is left over.
		{[][]int{{0}, {1}, {0, 1}}, []int{0, 1, -1}},
		{[][]int{{0}, {1}, {2}, {3}, {4}, {0, 1, 2, 3, 4}}, []int{0, 1, 2, 3, 4, -1}},
		{[][]int{{1, 2}, {0, 2}, {0, 1}, {0}}, []int{1, 2, 0, -1}},
		{[][]int{{5}, {5}}, []int{5, -1}},
	}
}

func everyKnownUses() []knownUses {
	return slices.Concat(knownFew(), knownCrowds(), knownChanges())
}

// validUses has all valid uses for which plugs are tested.
func validUses() [][][]int {
	every := slices.Concat(smallUses(), grownUses())
	for _, k := range everyKnownUses() {
		every = append(every, k.uses)
	}
	return every
}

// fewUses has some of validUses, with all numbers of lists.
func fewUses() [][][]int {
	every := slices.Concat(usesOf(0, nil), usesOf(1, partsOf(allSix)), usesOf(3, partsOf([]int{0, 5})), grownUses()[:200])
	for _, k := range everyKnownUses() {
		every = append(every, k.uses)
	}
	return every
}

// withList has the same uses but for one list.
func withList(uses [][]int, box int, list []int) [][]int {
	others := slices.Clone(uses)
	others[box] = list
	return others
}

// wrongLists has lists that are not valid: with a plug that does not exist, with one twice, and not ascending.
func wrongLists() [][]int {
	lists := [][]int{{0, 0}, {5, 5}, {1, 0}, {5, 0}, {0, 1, 1}, {0, 0, 1}, {0, 2, 1}, {1, 0, 2}, {2, 0, 1}, {0, 1, 0}, {5, 4, 3, 2, 1, 0}, {0, 1, 2, 3, 4, 4}, {0, 1, 2, 3, 4, 5, 5}, {0, 1, 2, 3, 4, 5, 0}, make([]int, 1000)}
	for _, wrong := range noPlugs() {
		lists = append(lists, []int{wrong}, []int{wrong, 3}, []int{3, wrong}, []int{1, wrong, 3}, append([]int{wrong}, allSix...), append(slices.Clone(allSix), wrong))
	}
	return lists
}

// otherUses has uses that are not valid: those of too many lists, and those with a wrong list, alone, and among others as the first one, in the middle, and as the last one.
func otherUses() [][][]int {
	var every [][][]int
	for _, many := range []int{7, 8, 12, 100} {
		every = append(every, make([][]int, many), slices.Repeat([][]int{{0}}, many), slices.Repeat([][]int{{}, {1, 3}}, many/2+1)[:many], slices.Repeat([][]int{allSix}, many))
	}
	every = append(every, chain(5), [][]int{{0}, {1}, {2}, {3}, {4}, {5}})
	for i := range every[len(every)-2:] {
		at := len(every) - 2 + i
		every[at] = append(every[at], nil)
	}
	for _, list := range wrongLists() {
		every = append(every, [][]int{list})
		for _, uses := range [][][]int{{nil, nil, nil}, {{0}, {0, 1}, {2, 5}}, chain(5), slices.Repeat([][]int{allSix}, 6)} {
			for _, box := range []int{0, len(uses) / 2, len(uses) - 1} {
				every = append(every, withList(uses, box, list))
			}
		}
	}
	return every
}

func TestUsesOfTheTestsAreWhatTheyShouldBe(t *testing.T) {
	for _, uses := range validUses() {
		if !usesAreValid(uses) {
			t.Fatalf("%v is not valid", uses)
		}
	}
	for _, uses := range otherUses() {
		if usesAreValid(uses) {
			t.Fatalf("%v is valid", uses)
		}
	}
	many := map[int]int{}
	for _, uses := range validUses() {
		many[len(uses)]++
	}
	for lists, least := range []int{1, 64, 4096, 512, 4096, 1024, 4096} {
		if many[lists] < least {
			t.Fatalf("there are %d uses with %d lists", many[lists], lists)
		}
	}
	for _, plug := range []int{-1, impl.MaxPlugs} {
		if !slices.Contains(noPlugs(), plug) {
			t.Fatalf("%d is not among %v", plug, noPlugs())
		}
	}
}

func TestPlugsHaveTheirBounds(t *testing.T) {
	if impl.MaxPlugs != 6 || impl.MaxColds != 6 {
		t.Fatalf("MaxPlugs is %d, and MaxColds %d", impl.MaxPlugs, impl.MaxColds)
	}
}

func TestUsesValidOfKnownUses(t *testing.T) {
	for _, k := range []struct {
		uses [][]int
		want bool
	}{
		{nil, true},
		{[][]int{}, true},
		{[][]int{nil}, true},
		{[][]int{{}}, true},
		{[][]int{{0}}, true},
		{[][]int{{5}}, true},
		{[][]int{{-1}}, false},
		{[][]int{{6}}, false},
		{[][]int{{0, 1, 2, 3, 4, 5}}, true},
		{[][]int{{-1, 0}}, false},
		{[][]int{{5, 6}}, false},
		{[][]int{{0, 5}}, true},
		{[][]int{{5, 0}}, false},
		{[][]int{{0, 0}}, false},
		{[][]int{{3, 3}}, false},
		{[][]int{{0, 2, 1}}, false},
		// One list need not ascend from the one before it.
		{[][]int{{3, 4}, {0, 1}, {3, 4}, nil, {0}}, true},
		{[][]int{{1}, {1}, {1}, {1}, {1}, {1}}, true},
		{[][]int{{1}, {1}, {1}, {1}, {1}, {1}, {1}}, false},
		{make([][]int, 6), true},
		{make([][]int, 7), false},
		{slices.Repeat([][]int{allSix}, 6), true},
		{slices.Repeat([][]int{allSix}, 7), false},
		{[][]int{{0}, {1}, {2}, {3}, {4}, {5, 5}}, false},
		{[][]int{{1, 0}, {1}, {2}, {3}, {4}, {5}}, false},
		{[][]int{{0}, {1}, {2, 6}, {3}, {4}, {5}}, false},
	} {
		if got := impl.UsesValid(k.uses); got != k.want || got != usesAreValid(k.uses) {
			t.Errorf("UsesValid of %v is %v, not %v", k.uses, got, k.want)
		}
	}
}

func TestUsesValidOfAllLists(t *testing.T) {
	for many := range 5 {
		for _, list := range portsLists(many, []int{-1, 0, 1, 3, 5, 6}) {
			for _, uses := range [][][]int{{list}, {list, {0}, nil}, {allSix, list, {4, 5}}, {nil, {5}, list}} {
				if got, want := impl.UsesValid(uses), usesAreValid(uses); got != want {
					t.Fatalf("UsesValid of %v is %v, not %v", uses, got, want)
				}
			}
		}
	}
}

func TestUsesValidOfValidUses(t *testing.T) {
	for _, uses := range validUses() {
		if !impl.UsesValid(uses) {
			t.Fatalf("UsesValid of %v is false", uses)
		}
	}
}

func TestP86UsesMayBeNone(t *testing.T) {
	for _, uses := range validUses() {
		for box := range uses {
			for _, empty := range [][]int{nil, {}} {
				if with := withList(uses, box, empty); !impl.UsesValid(with) {
					t.Fatalf("UsesValid of %v is false, but it is true of %v", with, uses)
				}
			}
		}
	}
}

func TestP86PlugsThatDoNotExistAreRefused(t *testing.T) {
	for _, uses := range fewUses() {
		for box, list := range uses {
			for _, wrong := range noPlugs() {
				for at := range len(list) + 1 {
					if with := withList(uses, box, slices.Insert(slices.Clone(list), at, wrong)); impl.UsesValid(with) {
						t.Fatalf("UsesValid of %v is true", with)
					}
				}
			}
		}
	}
}

func TestPlugsValidOfKnownPlugs(t *testing.T) {
	four := [][]int{{0, 1}, {0}, {0}, {3}}
	none := [][]int{nil, {}, nil}
	for _, k := range []struct {
		uses  [][]int
		plugs []int
		want  bool
	}{
		{nil, nil, true},
		{nil, []int{}, true},
		{[][]int{}, nil, true},
		{nil, []int{-1}, false},
		{nil, []int{0}, false},
		{four, []int{1, 0, -1, 3}, true},
		{four, []int{0, -1, -1, 3}, true},
		// Valid ones that are not the best ones, as they have more -1 than they need.
		{four, []int{-1, -1, -1, -1}, true},
		{four, []int{0, -1, -1, -1}, true},
		{four, []int{-1, -1, 0, 3}, true},
		{four, []int{1, -1, -1, 3}, true},
		// One plug for two boxes, beside each other and not.
		{four, []int{0, 0, -1, 3}, false},
		{four, []int{0, -1, 0, 3}, false},
		{four, []int{-1, 0, 0, -1}, false},
		// A plug that is not in the list: that of another one, and one that nobody can use.
		{four, []int{3, 0, -1, 1}, false},
		{four, []int{1, 0, -1, 0}, false},
		{four, []int{2, 0, -1, 3}, false},
		{four, []int{1, 0, -1, 5}, false},
		// No plugs at all.
		{four, []int{-2, 0, -1, 3}, false},
		{four, []int{1, 0, -2, 3}, false},
		{four, []int{1, 0, -1, -2}, false},
		{four, []int{1, 0, 6, 3}, false},
		// Of another length.
		{four, nil, false},
		{four, []int{}, false},
		{four, []int{1, 0, -1}, false},
		{four, []int{1, 0, -1, 3, -1}, false},
		{four, []int{1, 0, -1, 3, 4}, false},
		{none, []int{-1, -1, -1}, true},
		{none, []int{-1, 0, -1}, false},
		{none, []int{-1, -1}, false},
		{none, []int{-1, -1, -1, -1}, false},
		{[][]int{{0}}, []int{0}, true},
		{[][]int{{0}}, []int{-1}, true},
		{[][]int{{5}}, []int{5}, true},
		{[][]int{{5}}, []int{0}, false},
		{slices.Repeat([][]int{allSix}, 6), []int{5, 3, 1, 0, 2, 4}, true},
		{slices.Repeat([][]int{allSix}, 6), []int{5, 3, 1, 0, 2, 5}, false},
		{make([][]int, 6), []int{-1, -1, -1, -1, -1, -1}, true},
	} {
		if got := impl.PlugsValid(k.uses, k.plugs); got != k.want || got != plugsAreValid(k.uses, k.plugs) {
			t.Errorf("PlugsValid of %v, %v is %v, not %v", k.uses, k.plugs, got, k.want)
		}
	}
}

// Of small uses all plugs of all lengths are held against the document.
func TestPlugsValidOfAllPlugs(t *testing.T) {
	for many := range 4 {
		for _, uses := range usesOf(many, partsOf([]int{0, 1, 2})) {
			for length := range many + 2 {
				for _, plugs := range portsLists(length, []int{-2, -1, 0, 1, 2}) {
					if got, want := impl.PlugsValid(uses, plugs), plugsAreValid(uses, plugs); got != want {
						t.Fatalf("PlugsValid of %v, %v is %v, not %v", uses, plugs, got, want)
					}
				}
			}
		}
	}
}

// Valid plugs of all numbers of boxes, each with one of them changed.
func TestPlugsValidOfChangedPlugs(t *testing.T) {
	valid, wrong := 0, 0
	numbers := slices.Concat(allSix, noPlugs())
	for i, uses := range grownUses() {
		next := numbersFrom(uint32(i))
		every := everyPlugs(uses)
		for range 4 {
			plugs := every[next(len(every))]
			for box := range plugs {
				changed := slices.Clone(plugs)
				for _, changed[box] = range numbers {
					got, want := impl.PlugsValid(uses, changed), plugsAreValid(uses, changed)
					if got != want {
						t.Fatalf("PlugsValid of %v, %v is %v, not %v", uses, changed, got, want)
					}
					if got {
						valid++
					} else {
						wrong++
					}
				}
			}
		}
	}
	if valid < 10000 || wrong < 10000 {
		t.Fatalf("%d plugs are valid, and %d are not", valid, wrong)
	}
}

func TestPlugInOfKnownUses(t *testing.T) {
	for _, k := range everyKnownUses() {
		if got := impl.PlugIn(k.uses); !slices.Equal(got, k.best) {
			t.Errorf("PlugIn of %v is %v, not %v", k.uses, got, k.best)
		}
		if got, want := impl.PlugMany(k.uses), manyPlugged(k.best); got != want {
			t.Errorf("PlugMany of %v is %d, not %d", k.uses, got, want)
		}
	}
}

// Of all uses the best plugs are looked for among all that are valid.
func TestPlugInOfValidUses(t *testing.T) {
	all, early, last := 0, 0, 0
	for _, uses := range validUses() {
		want := bestPlugsOf(uses)
		if got := impl.PlugIn(uses); !slices.Equal(got, want) {
			t.Fatalf("PlugIn of %v is %v, not %v", uses, got, want)
		}
		if got := impl.PlugMany(uses); got != manyPlugged(want) {
			t.Fatalf("PlugMany of %v is %d, and the best plugs are %v", uses, got, want)
		}
		switch out := slices.Index(want, -1); {
		case out < 0:
			all++
		case out == len(want)-1:
			last++
		case len(uses[out]) > 0:
			early++
		}
	}
	if all < 1000 || early < 1000 || last < 1000 {
		t.Fatalf("there are %d uses by which all boxes are plugged in, %d by which the last one alone is not, and %d by which an earlier one is not", all, last, early)
	}
}

func TestP10NoMoreCanBePluggedInThanAtBest(t *testing.T) {
	fewer := 0
	for _, uses := range validUses() {
		most := impl.PlugMany(uses)
		for _, plugs := range everyPlugs(uses) {
			if many := manyPlugged(plugs); many > most {
				t.Fatalf("PlugMany of %v is %d, but with %v there are %d", uses, most, plugs, many)
			} else if many < most {
				fewer++
			}
		}
		if best := impl.PlugIn(uses); manyPlugged(best) != most {
			t.Fatalf("PlugMany of %v is %d, but PlugIn is %v", uses, most, best)
		}
	}
	if fewer < 10000 {
		t.Fatalf("only %d valid plugs are fewer than at best", fewer)
	}
}

func TestP10AnyPlugCanBePulled(t *testing.T) {
	for _, uses := range slices.Concat(fewUses(), [][][]int{slices.Repeat([][]int{allSix}, 6)}) {
		for _, plugs := range append(everyPlugs(uses), impl.PlugIn(uses)) {
			if !impl.PlugsValid(uses, plugs) {
				t.Fatalf("PlugsValid of %v, %v is false", uses, plugs)
			}
			for box := range plugs {
				pulled := slices.Clone(plugs)
				pulled[box] = -1
				if !impl.PlugsValid(uses, pulled) {
					t.Fatalf("PlugsValid of %v, %v is false, but it is true of %v", uses, pulled, plugs)
				}
			}
		}
	}
}

func TestP11OnlyTooFewPlugsKeepABoxOut(t *testing.T) {
	short := 0
	for _, uses := range validUses() {
		many := impl.PlugMany(uses)
		exact := false
		for _, set := range partsOf(indicesOf(uses)) {
			more := len(set) - len(impl.PlugsOf(uses, set))
			if more > 0 && many > len(uses)-more {
				t.Fatalf("PlugMany of %v is %d, but the boxes %v are %d more than their plugs", uses, many, set, more)
			}
			exact = exact || many == len(uses)-more
		}
		if !exact {
			t.Fatalf("PlugMany of %v is %d, but there are no boxes that are as many more than their plugs", uses, many)
		}
		if many < len(uses) {
			short++
		}
	}
	if short < 1000 {
		t.Fatalf("there are only %d uses by which a box is kept out", short)
	}
}

func TestP87TheBestPlugsAreValid(t *testing.T) {
	for _, uses := range validUses() {
		if best := impl.PlugIn(uses); !impl.PlugsValid(uses, best) || !plugsAreValid(uses, best) {
			t.Fatalf("PlugsValid of %v, %v, which is PlugIn, is false", uses, best)
		}
	}
}

func TestP87NobodyWithoutAPlugCanUseOneThatNobodyHas(t *testing.T) {
	out := 0
	for _, uses := range validUses() {
		best := impl.PlugIn(uses)
		for box, list := range uses {
			if best[box] != -1 {
				continue
			}
			for _, plug := range list {
				out++
				if !slices.Contains(best, plug) {
					t.Fatalf("PlugIn of %v is %v, but the box %d can use the plug %d, which nobody has", uses, best, box, plug)
				}
			}
		}
	}
	if out < 1000 {
		t.Fatalf("boxes without a plug can use only %d plugs", out)
	}
}

func TestPlugsOfKnownBoxes(t *testing.T) {
	four := [][]int{{0, 1}, {0}, {0}, {3}}
	six := [][]int{{4, 5}, {0}, {}, {1, 4}, nil, {2, 5}}
	for _, k := range []struct {
		uses [][]int
		some []int
		want []int
	}{
		{nil, nil, nil},
		{nil, []int{}, nil},
		{four, nil, nil},
		{four, []int{}, nil},
		{four, []int{0}, []int{0, 1}},
		{four, []int{1}, []int{0}},
		{four, []int{3}, []int{3}},
		{four, []int{1, 2}, []int{0}},
		{four, []int{3, 0}, []int{0, 1, 3}},
		{four, []int{0, 1, 2, 3}, []int{0, 1, 3}},
		{four, []int{3, 2, 1, 0}, []int{0, 1, 3}},
		// One index twice, and often.
		{four, []int{0, 0}, []int{0, 1}},
		{four, []int{3, 0, 3}, []int{0, 1, 3}},
		{four, slices.Repeat([]int{3, 1}, 100), []int{0, 3}},
		// Boxes that can use no plug.
		{six, []int{2}, nil},
		{six, []int{4, 2}, nil},
		{six, []int{2, 5}, []int{2, 5}},
		{six, []int{0, 3}, []int{1, 4, 5}},
		{six, []int{5, 0}, []int{2, 4, 5}},
		{six, []int{0, 1, 2, 3, 4, 5}, []int{0, 1, 2, 4, 5}},
		{slices.Repeat([][]int{allSix}, 6), []int{5}, allSix},
		{slices.Repeat([][]int{allSix}, 6), []int{5, 4, 3, 2, 1, 0}, allSix},
		{make([][]int, 6), []int{0, 1, 2, 3, 4, 5}, nil},
		// Indices that are none.
		{nil, []int{0}, nil},
		{nil, []int{-1}, nil},
		{four, []int{-1}, nil},
		{four, []int{4}, nil},
		{four, []int{0, -1}, nil},
		{four, []int{4, 0}, nil},
		{four, []int{0, 4, 1}, nil},
		{four, []int{0, 1, 2, 3, 4}, nil},
		{six, []int{6}, nil},
		{six, []int{5, 6}, nil},
		{six, []int{-1, 5}, nil},
	} {
		if got := impl.PlugsOf(k.uses, k.some); !slices.Equal(got, k.want) {
			t.Errorf("PlugsOf of %v, %v is %v, not %v", k.uses, k.some, got, k.want)
		}
	}
}

// All boxes of all sets are told in several orders, and some of them twice.
func TestPlugsOfValidUses(t *testing.T) {
	for i, uses := range validUses() {
		next := numbersFrom(uint32(i))
		for _, set := range partsOf(indicesOf(uses)) {
			twice := append(slices.Clone(set), set...)
			for _, some := range [][]int{set, shuffled(set, next), shuffled(twice, next)} {
				if got, want := impl.PlugsOf(uses, some), plugsOf(uses, set); !slices.Equal(got, want) {
					t.Fatalf("PlugsOf of %v, %v is %v, not %v", uses, some, got, want)
				}
			}
		}
	}
}

func TestPlugsOfOtherIndices(t *testing.T) {
	for _, uses := range fewUses() {
		all := indicesOf(uses)
		for _, wrong := range append(noSlots(len(uses)), len(uses)) {
			for at := range len(all) + 1 {
				some := slices.Insert(slices.Clone(all), at, wrong)
				if got := impl.PlugsOf(uses, some); len(got) != 0 {
					t.Fatalf("PlugsOf of %v, %v is %v", uses, some, got)
				}
			}
			if got := impl.PlugsOf(uses, []int{wrong}); len(got) != 0 {
				t.Fatalf("PlugsOf of %v, %d is %v", uses, wrong, got)
			}
		}
	}
}

func TestP88MoreBoxesCanUseMorePlugs(t *testing.T) {
	lost, kept := 0, 0
	for _, uses := range validUses() {
		for _, set := range partsOf(indicesOf(uses)) {
			plugs := impl.PlugsOf(uses, set)
			for at := range set {
				fewer := impl.PlugsOf(uses, slices.Delete(slices.Clone(set), at, at+1))
				if slices.ContainsFunc(fewer, func(plug int) bool { return !slices.Contains(plugs, plug) }) {
					t.Fatalf("PlugsOf of %v, %v is %v, but without the box %d it is %v", uses, set, plugs, set[at], fewer)
				}
				if len(fewer) < len(plugs) {
					lost++
				} else {
					kept++
				}
			}
		}
	}
	if lost < 1000 || kept < 1000 {
		t.Fatalf("with one box fewer there were fewer plugs %d times, and as many %d times", lost, kept)
	}
}

func TestP88EachPlugIsOneThatOneOfThemCanUse(t *testing.T) {
	for _, uses := range validUses() {
		for _, set := range partsOf(indicesOf(uses)) {
			for _, plug := range impl.PlugsOf(uses, set) {
				if !slices.ContainsFunc(set, func(box int) bool { return slices.Contains(uses[box], plug) }) {
					t.Fatalf("PlugsOf of %v, %v has %d, which none of them can use", uses, set, plug)
				}
			}
		}
	}
}

// The plugs and the indices are those that would be valid if the uses were.
func TestPlugsForOtherUses(t *testing.T) {
	for _, uses := range otherUses() {
		if impl.UsesValid(uses) {
			t.Fatalf("UsesValid of %.60v is true", uses)
		}
		out := slices.Repeat([]int{-1}, len(uses))
		one := slices.Clone(out)
		if i := slices.IndexFunc(uses, func(list []int) bool { return len(list) > 0 }); i >= 0 {
			one[i] = uses[i][0]
		}
		for _, plugs := range [][]int{nil, out, one, out[:len(out)-1]} {
			if impl.PlugsValid(uses, plugs) {
				t.Fatalf("PlugsValid of %.60v, %v is true", uses, plugs)
			}
		}
		if got := impl.PlugIn(uses); len(got) != 0 {
			t.Fatalf("PlugIn of %.60v is %v", uses, got)
		}
		if got := impl.PlugMany(uses); got != -1 {
			t.Fatalf("PlugMany of %.60v is %d, not -1", uses, got)
		}
		all := indicesOf(uses)
		for _, some := range [][]int{nil, {0}, {len(uses) - 1}, {-1}, {len(uses)}, all, append(slices.Clone(all), 0)} {
			if got := impl.PlugsOf(uses, some); len(got) != 0 {
				t.Fatalf("PlugsOf of %.60v, %v is %v", uses, some, got)
			}
		}
	}
}

// plugAnswers has all that is told of uses, by some plugs and by indices.
type plugAnswers struct {
	valid, plugsValid bool
	many              int
	best              []int
	of                [][]int
}

// plugAnswersOf asks for the plugs of the first indices, of none and of one too many, too.
func plugAnswersOf(uses [][]int, plugs []int, some []int) plugAnswers {
	a := plugAnswers{valid: impl.UsesValid(uses), plugsValid: impl.PlugsValid(uses, plugs), many: impl.PlugMany(uses), best: impl.PlugIn(uses)}
	for many := range len(some) + 1 {
		a.of = append(a.of, impl.PlugsOf(uses, some[:many]))
	}
	return a
}

func samePlugAnswers(a plugAnswers, b plugAnswers) bool {
	return a.valid == b.valid && a.plugsValid == b.plugsValid && a.many == b.many && slices.Equal(a.best, b.best) && slices.EqualFunc(a.of, b.of, slices.Equal)
}

// somePlugs has all that can be told for uses, valid or not: the first plug of each list, as far as it was not told yet.
func somePlugs(uses [][]int) []int {
	var plugs []int
	for _, list := range uses {
		if len(list) > 0 && !slices.Contains(plugs, list[0]) {
			plugs = append(plugs, list[0])
		} else {
			plugs = append(plugs, -1)
		}
	}
	return plugs
}

// usesInOneList returns uses like these whose lists lie one behind the other in one list with room behind, and whose list of lists has room, too.
func usesInOneList(uses [][]int) ([][]int, []int, [][]int) {
	whole := append(slices.Concat(uses...), -7, -8, -9)
	own := make([][]int, 0, len(uses)+2)
	used := 0
	for _, list := range uses {
		own = append(own, whole[used:used+len(list)])
		used += len(list)
	}
	return own, whole, append(own, []int{-1}, []int{-2})
}

// What is behind the end of every list is read, too; and the answers are overwritten, so that memory shared with an argument shows.
func TestUsesAndPlugsAreNotChanged(t *testing.T) {
	for _, uses := range slices.Concat(fewUses(), otherUses()) {
		own, whole, beyond := usesInOneList(uses)
		plugs := append(somePlugs(uses), -3, -4)
		some := append(slices.Repeat(indicesOf(uses), 2), -5, -6)
		lists, plugsBefore, someBefore := slices.Clone(whole), slices.Clone(plugs), slices.Clone(some)
		answers := plugAnswersOf(own, plugs[:len(uses)], some[:len(some)-1])
		overwrite(answers.best)
		for _, list := range answers.of {
			overwrite(list)
		}
		if !slices.EqualFunc(own, uses, slices.Equal) || !slices.Equal(whole, lists) || !slices.EqualFunc(beyond[len(uses):], [][]int{{-1}, {-2}}, slices.Equal) {
			t.Fatalf("%.60v was changed to %.60v, with %.60v behind it", uses, own, whole)
		}
		if !slices.Equal(plugs, plugsBefore) || !slices.Equal(some, someBefore) {
			t.Fatalf("%.60v and %.60v were changed to %.60v and %.60v", plugsBefore, someBefore, plugs, some)
		}
	}
}

// The answers of a first round are overwritten while those of a second one are read, and others are asked for in between.
func TestPlugsKeepNothingFromCallToCall(t *testing.T) {
	list := slices.Concat(fewUses(), otherUses())
	var first, second []plugAnswers
	ask := func(uses [][]int) plugAnswers {
		return plugAnswersOf(uses, somePlugs(uses), indicesOf(uses))
	}
	for _, uses := range list {
		first = append(first, ask(uses))
	}
	for _, uses := range list {
		second = append(second, ask(uses))
	}
	for i := len(list) - 1; i >= 0; i-- {
		if !samePlugAnswers(second[i], first[i]) {
			t.Fatalf("the answers for %.60v are %.60v, and were %.60v", list[i], second[i], first[i])
		}
		overwrite(first[i].best)
		for j, answer := range first[i].of {
			overwrite(answer)
			if !slices.EqualFunc(first[i].of[j+1:], second[i].of[j+1:], slices.Equal) {
				t.Fatalf("PlugsOf of %.60v and the first %d shares memory with that of more", list[i], j)
			}
		}
		if again := ask(list[i]); !samePlugAnswers(again, second[i]) {
			t.Fatalf("the answers for %.60v are %.60v after the first ones were overwritten, not %.60v", list[i], again, second[i])
		}
	}
}
