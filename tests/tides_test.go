package tests

import (
	"math"
	"slices"
	"testing"

	"loop.example/containerport/impl"
)

// stay is what a ship asks of a tide: so many hours, from an hour on, with a depth.
type stay struct {
	tide              []int
	hour, many, depth int
}

func (s stay) deep() bool {
	return impl.DeepFor(s.tide, s.hour, s.many, s.depth)
}

func (s stay) next() int {
	return impl.NextDeep(s.tide, s.hour, s.many, s.depth)
}

func (s stay) most() int {
	return impl.DeepMost(s.tide, s.hour, s.many)
}

// from is the same stay from another hour on, and atDepth is one with another depth.
func (s stay) from(hour int) stay {
	return stay{s.tide, hour, s.many, s.depth}
}

func (s stay) atDepth(depth int) stay {
	return stay{s.tide, s.hour, s.many, depth}
}

// fourHours and halfDay are tides for which answers are worked out by hand.
var (
	fourHours = []int{3, 8, 9, 5}
	halfDay   = []int{0, 12, 30, 47, 60, 73, 99, 80, 61, 40, 22, 7}
)

// smallTides has all tides of few hours with some depths.
func smallTides() [][]int {
	list := portsLists(4, []int{0, 50, 99})
	for many := 1; many <= 3; many++ {
		list = append(list, portsLists(many, []int{0, 1, 98, 99})...)
	}
	return list
}

// flatTides has tides of every number of hours whose depths are all the same.
func flatTides() [][]int {
	var list [][]int
	for many := 1; many <= 12; many++ {
		for _, depth := range []int{0, 1, 50, 98, 99} {
			list = append(list, slices.Repeat([]int{depth}, many))
		}
	}
	return list
}

// unevenTides has tides with one hour that is deeper, or less deep, than all others, in every place.
func unevenTides() [][]int {
	var list [][]int
	for _, many := range []int{5, 12} {
		for hour := range many {
			for _, depths := range [][]int{{40, 41}, {99, 0}} {
				tide := slices.Repeat(depths[:1], many)
				tide[hour] = depths[1]
				list = append(list, tide)
			}
		}
	}
	return list
}

// grownTides has tides of every number of hours: ones that rise, ones that fall, and ones without a rule that shows.
func grownTides() [][]int {
	var list [][]int
	for many := 1; many <= 12; many++ {
		next := numbersFrom(uint32(700 + many))
		rising, few, mixed := make([]int, many), make([]int, many), make([]int, many)
		for hour := range many {
			rising[hour] = 20 + 5*hour
			few[hour] = 10 + next(3)
			mixed[hour] = next(100)
		}
		falling := slices.Clone(rising)
		slices.Reverse(falling)
		list = append(list, rising, falling, few, mixed)
	}
	return list
}

// validTides has all tides with which hours and depths are tested.
func validTides() [][]int {
	return slices.Concat([][]int{fourHours, halfDay}, smallTides(), flatTides(), unevenTides(), grownTides())
}

// fewTides has tides with which all hours are tested.
func fewTides() [][]int {
	return slices.Concat([][]int{fourHours, halfDay, {0}, {99}, {2, 7, 7}, {5, 5, 5, 9}}, grownTides())
}

// wrongDepths are not the depths of any hour.
var wrongDepths = append([]int{-1, -2, -99, 101, 199, 99 + 1<<32, 99 - 1<<32}, farNumbers...)

// invalidTides has tides without hours, with too many, and with a wrong depth in every place.
func invalidTides() [][]int {
	list := [][]int{nil, {}, make([]int, 13), make([]int, 14), make([]int, 1000), slices.Repeat([]int{99}, 13), append(slices.Clone(halfDay), 0), slices.Repeat(halfDay, 2)}
	for many := 1; many <= 12; many++ {
		for hour := range many {
			for _, depth := range wrongDepths {
				tide := slices.Clone(halfDay[:many])
				tide[hour] = depth
				list = append(list, tide)
			}
		}
	}
	return append(list, slices.Repeat([]int{-1}, 4), slices.Repeat([]int{100}, 12), slices.Repeat([]int{-1}, 13))
}

// unique has each number once, in ascending order.
func unique(list []int) []int {
	sorted := slices.Clone(list)
	slices.Sort(sorted)
	return slices.Compact(sorted)
}

// hoursFor has hours of the first periods and of the last ones, among them those around the multiples of the period.
func hoursFor(tide []int) []int {
	many := len(tide)
	list := []int{500, 995, 996, 997, 998, 999}
	for hour := range 2*many + 2 {
		list = append(list, hour)
	}
	for _, periods := range []int{7, 20, 999/many - 1, 999 / many} {
		list = append(list, periods*many-1, periods*many, periods*many+1)
	}
	return unique(slices.DeleteFunc(list, func(hour int) bool { return hour < 0 || hour > 999 }))
}

// countsFor has numbers of hours: none, one, those around one period and around two, and as many as there may be.
func countsFor(tide []int) []int {
	many := len(tide)
	return unique([]int{0, 1, 2, many - 1, many, many + 1, 2 * many, 2*many + 1, 3 * many, 500, 998, 999})
}

// depthsFor has the depths of a tide and those around them, and such as no hour can have.
func depthsFor(tide []int) []int {
	list := []int{math.MinInt, -1, 0, 99, 100, math.MaxInt}
	for _, depth := range tide {
		list = append(list, depth-1, depth, depth+1)
	}
	return unique(list)
}

// everyStay has all stays with the tides, hours, numbers of hours and depths above.
func everyStay(yield func(stay) bool) {
	for _, tide := range validTides() {
		for _, depth := range depthsFor(tide) {
			for _, many := range countsFor(tide) {
				for _, hour := range hoursFor(tide) {
					if !yield(stay{tide, hour, many, depth}) {
						return
					}
				}
			}
		}
	}
}

// hourByHour has the depths of all hours that stays can have, those behind MaxHour too: one period behind the other.
func hourByHour(tide []int) []int {
	return slices.Repeat(tide, 2000/len(tide)+1)
}

// deepInARow goes by the document: for each of these hours, how many in a row, from it on, have at least a depth.
func deepInARow(depths []int, depth int) []int {
	rows := make([]int, len(depths)+1)
	for hour := len(depths) - 1; hour >= 0; hour-- {
		if depths[hour] >= depth {
			rows[hour] = rows[hour+1] + 1
		}
	}
	return rows
}

// nextHourOf goes by the document, with what deepInARow tells.
func nextHourOf(s stay, rows []int) int {
	for hour := s.hour; hour <= 999; hour++ {
		if rows[hour] >= s.many {
			return hour
		}
	}
	return -1
}

// mostDepthOf goes by the document, with what hourByHour tells.
func mostDepthOf(s stay, depths []int) int {
	if s.many == 0 {
		return -1
	}
	return slices.Min(depths[s.hour : s.hour+s.many])
}

func TestTideValidOfKnownTides(t *testing.T) {
	for _, k := range []struct {
		tide []int
		want bool
	}{
		{fourHours, true},
		{halfDay, true},
		{[]int{0}, true},
		{[]int{1}, true},
		{[]int{99}, true},
		{[]int{98}, true},
		{[]int{0, 99}, true},
		{[]int{50, 50, 50}, true},
		{make([]int, 11), true},
		{make([]int, 12), true},
		{slices.Repeat([]int{99}, 12), true},
		{nil, false},
		{[]int{}, false},
		{make([]int, 13), false},
		{slices.Repeat([]int{99}, 13), false},
		{make([]int, 24), false},
		{[]int{-1}, false},
		{[]int{100}, false},
		{[]int{0, 100}, false},
		{[]int{100, 0}, false},
		{[]int{-1, 99}, false},
		{[]int{99, -1}, false},
		{[]int{3, 8, 100, 5}, false},
		{[]int{3, -1, 9, 5}, false},
		{append(make([]int, 11), 100), false},
		{append(make([]int, 11), -1), false},
		{[]int{math.MinInt}, false},
		{[]int{math.MaxInt}, false},
		{[]int{5 + 1<<32}, false},
	} {
		if got := impl.TideValid(k.tide); got != k.want {
			t.Errorf("TideValid of %v is %t, not %t", k.tide, got, k.want)
		}
	}
}

func TestTideValidOfAllTides(t *testing.T) {
	for _, tide := range validTides() {
		if !impl.TideValid(tide) {
			t.Errorf("%v is not valid", tide)
		}
	}
	for _, tide := range invalidTides() {
		if impl.TideValid(tide) {
			t.Errorf("%v is valid", tide)
		}
	}
	for depth := -10; depth <= 120; depth++ {
		if got := impl.TideValid([]int{depth}); got != (depth >= 0 && depth <= 99) {
			t.Errorf("TideValid of %d alone is %t", depth, got)
		}
	}
	for many := range 40 {
		if got := impl.TideValid(make([]int, many)); got != (many >= 1 && many <= 12) {
			t.Errorf("TideValid of %d hours is %t", many, got)
		}
	}
}

func TestP94TidesHaveAnHourAtLeast(t *testing.T) {
	for _, tide := range validTides() {
		for many := 1; many <= len(tide); many++ {
			if !impl.TideValid(tide[:many]) {
				t.Errorf("the first %d hours of %v are not valid", many, tide)
			}
		}
		if impl.TideValid(tide[:0]) {
			t.Errorf("no hours of %v are valid", tide)
		}
		if got := impl.DepthAt(tide[:1], 0); got != tide[0] {
			t.Errorf("with the first hour of %v alone the depth is %d", tide, got)
		}
	}
	if impl.TideValid(nil) {
		t.Error("no tide at all is valid")
	}
}

func TestDepthAtKnownHours(t *testing.T) {
	for _, k := range []struct {
		tide []int
		hour int
		want int
	}{
		{fourHours, 0, 3},
		{fourHours, 1, 8},
		{fourHours, 2, 9},
		{fourHours, 3, 5},
		// Multiples of the period, and the hours around them.
		{fourHours, 4, 3},
		{fourHours, 5, 8},
		{fourHours, 7, 5},
		{fourHours, 8, 3},
		{fourHours, 9, 8},
		{fourHours, 399, 5},
		{fourHours, 400, 3},
		{fourHours, 401, 8},
		// MaxHour, and behind it.
		{fourHours, 998, 9},
		{fourHours, 999, 5},
		{fourHours, 1000, 3},
		{fourHours, 1001, 8},
		{fourHours, 1<<32 + 1, 8},
		{fourHours, 1 << 62, 3},
		{fourHours, math.MaxInt - 1, 9},
		{fourHours, math.MaxInt, 5},
		// As many hours as there may be.
		{halfDay, 0, 0},
		{halfDay, 6, 99},
		{halfDay, 11, 7},
		{halfDay, 12, 0},
		{halfDay, 13, 12},
		{halfDay, 995, 7},
		{halfDay, 996, 0},
		{halfDay, 997, 12},
		{halfDay, 999, 47},
		{halfDay, 1000, 60},
		{halfDay, 12_000_011, 7},
		{halfDay, math.MaxInt - 1, 99},
		{halfDay, math.MaxInt, 80},
		// One hour, and other numbers of hours.
		{[]int{50}, 0, 50},
		{[]int{50}, 1, 50},
		{[]int{0}, 999, 0},
		{[]int{99}, math.MaxInt, 99},
		{[]int{1, 2, 3}, math.MaxInt, 2},
		{[]int{1, 2, 3, 4, 5}, math.MaxInt, 3},
		{[]int{1, 2, 3, 4, 5, 6, 7}, math.MaxInt, 1},
		{[]int{1, 2, 3, 4, 5, 6, 7, 8, 9}, math.MaxInt, 8},
		{[]int{1, 2, 3, 4, 5, 6, 7, 8, 9, 10}, math.MaxInt, 8},
		// Hours below 0, and other tides.
		{fourHours, -1, -1},
		{fourHours, -4, -1},
		{[]int{0}, -1, -1},
		{fourHours, math.MinInt, -1},
		{nil, 0, -1},
		{[]int{}, 1, -1},
		{make([]int, 13), 0, -1},
		{[]int{3, 100}, 0, -1},
		{[]int{3, -1}, 0, -1},
		{[]int{3, -2}, 1, -1},
	} {
		if got := impl.DepthAt(k.tide, k.hour); got != k.want {
			t.Errorf("DepthAt of %v, %d is %d, not %d", k.tide, k.hour, got, k.want)
		}
	}
}

func TestDepthAtAllHours(t *testing.T) {
	for _, tide := range validTides() {
		for hour, want := range hourByHour(tide) {
			if got := impl.DepthAt(tide, hour); got != want {
				t.Fatalf("DepthAt of %v, %d is %d, not %d", tide, hour, got, want)
			}
		}
	}
}

func TestP95DepthsComeAgain(t *testing.T) {
	for _, tide := range validTides() {
		hours := append(hoursFor(tide), 1000, 1001, 12_345, 1<<31-1, 1<<32, 1<<62, math.MaxInt-12)
		for _, hour := range hours {
			first := impl.DepthAt(tide, hour)
			if !slices.Contains(tide, first) {
				t.Fatalf("DepthAt of %v, %d is %d", tide, hour, first)
			}
			for _, periods := range []int{1, 2, 10} {
				later := hour + periods*len(tide)
				if later < hour {
					continue
				}
				if got := impl.DepthAt(tide, later); got != first {
					t.Fatalf("DepthAt of %v, %d is %d, but of %d it is %d", tide, hour, first, later, got)
				}
			}
		}
	}
}

// All that is told of a stay comes again after a period, too, as far as there are hours.
func TestStaysComeAgain(t *testing.T) {
	for s := range everyStay {
		later := s.from(s.hour + len(s.tide))
		if later.hour > 999 {
			continue
		}
		if s.deep() != later.deep() || s.most() != later.most() {
			t.Fatalf("%+v is deep: %t, %d at most; a period later it is deep: %t, %d at most", s, s.deep(), s.most(), later.deep(), later.most())
		}
		if next := later.next(); next != -1 && s.next() != next-len(s.tide) {
			t.Fatalf("NextDeep of %+v is %d, but a period later it is %d", s, s.next(), next)
		}
	}
}

func TestDepthAtHoursBelowNothing(t *testing.T) {
	for _, tide := range validTides() {
		for _, hour := range []int{-1, -2, -len(tide), -12, -999, -1000, math.MinInt, math.MinInt + 1, -1 << 32, 1 - 1<<32} {
			if got := impl.DepthAt(tide, hour); got != -1 {
				t.Errorf("DepthAt of %v, %d is %d, not -1", tide, hour, got)
			}
		}
	}
}

// knownStay is a stay with what is told of it, worked out by hand.
type knownStay struct {
	stay
	deep bool
	next int
}

// knownStays goes through fourHours, whose hours from 996 to 1003 have the depths 3, 8, 9, 5, 3, 8, 9, 5.
func knownStays() []knownStay {
	known := func(hour int, many int, depth int, deep bool, next int) knownStay {
		return knownStay{stay{fourHours, hour, many, depth}, deep, next}
	}
	return []knownStay{
		// No hours: every depth is deep enough.
		known(0, 0, 3, true, 0),
		known(0, 0, 99, true, 0),
		known(0, 0, 100, true, 0),
		known(3, 0, math.MaxInt, true, 3),
		known(3, 0, -1, true, 3),
		known(999, 0, 100, true, 999),
		known(999, 0, math.MinInt, true, 999),
		// One hour: a depth that is exactly there, and one more.
		known(0, 1, 3, true, 0),
		known(0, 1, 4, false, 1),
		known(1, 1, 8, true, 1),
		known(1, 1, 9, false, 2),
		known(2, 1, 9, true, 2),
		known(2, 1, 10, false, -1),
		known(3, 1, 5, true, 3),
		known(3, 1, 6, false, 5),
		known(3, 1, 9, false, 6),
		known(7, 1, 8, false, 9),
		// Several hours, in the period and behind its end.
		known(1, 2, 8, true, 1),
		known(1, 2, 9, false, -1),
		known(1, 3, 5, true, 1),
		known(1, 3, 6, false, -1),
		known(2, 2, 5, true, 2),
		known(2, 2, 8, false, 5),
		known(2, 3, 5, false, 5),
		known(3, 2, 3, true, 3),
		known(3, 2, 4, false, 5),
		known(3, 3, 5, false, 5),
		known(4, 3, 5, false, 5),
		known(6, 2, 8, false, 9),
		// A whole period, one hour less, one more, and more than two periods.
		known(3, 3, 8, false, -1),
		known(0, 4, 3, true, 0),
		known(0, 4, 4, false, -1),
		known(3, 5, 3, true, 3),
		known(3, 5, 4, false, -1),
		known(2, 9, 3, true, 2),
		known(2, 9, 4, false, -1),
		known(1, 999, 3, true, 1),
		known(1, 999, 4, false, -1),
		// Depths that no hour can have.
		known(0, 4, -1, true, 0),
		known(2, 999, math.MinInt, true, 2),
		known(0, 1, 100, false, -1),
		known(0, 999, math.MaxInt, false, -1),
		// The last hours: the ones that are asked for may be behind MaxHour, the first one may not.
		known(996, 1, 5, false, 997),
		known(996, 2, 8, false, 997),
		known(996, 3, 5, false, 997),
		known(997, 3, 5, true, 997),
		known(998, 2, 8, false, -1),
		known(998, 2, 5, true, 998),
		known(998, 3, 5, false, -1),
		known(998, 3, 3, true, 998),
		known(999, 1, 5, true, 999),
		known(999, 1, 6, false, -1),
		known(999, 1, 9, false, -1),
		known(999, 2, 3, true, 999),
		known(999, 2, 5, false, -1),
		known(999, 4, 3, true, 999),
		known(999, 5, 3, true, 999),
		known(999, 999, 3, true, 999),
		known(999, 999, 4, false, -1),
	}
}

// otherKnownStays has other tides: of one hour, of three and four, and of as many as there may be.
func otherKnownStays() []knownStay {
	two, high := []int{2, 7, 7}, []int{5, 5, 5, 9}
	return []knownStay{
		{stay{[]int{50}, 0, 1, 50}, true, 0},
		{stay{[]int{50}, 0, 1, 51}, false, -1},
		{stay{[]int{50}, 7, 999, 50}, true, 7},
		{stay{[]int{50}, 999, 999, 50}, true, 999},
		{stay{[]int{50}, 999, 999, 51}, false, -1},
		{stay{[]int{50}, 999, 0, 51}, true, 999},
		{stay{[]int{0}, 3, 2, 0}, true, 3},
		{stay{[]int{0}, 3, 2, 1}, false, -1},
		{stay{[]int{99}, 3, 2, 99}, true, 3},
		{stay{[]int{99}, 3, 2, 100}, false, -1},
		// 998 is the last hour of a period, and 999 the first one of the next.
		{stay{two, 0, 2, 7}, false, 1},
		{stay{two, 2, 2, 7}, false, 4},
		{stay{two, 2, 1, 7}, true, 2},
		{stay{two, 2, 3, 7}, false, -1},
		{stay{two, 996, 2, 7}, false, 997},
		{stay{two, 997, 2, 7}, true, 997},
		{stay{two, 998, 2, 7}, false, -1},
		{stay{two, 998, 1, 7}, true, 998},
		{stay{two, 999, 1, 7}, false, -1},
		{stay{two, 999, 1, 2}, true, 999},
		// MaxHour is the first one that is deep enough.
		{stay{high, 0, 1, 9}, false, 3},
		{stay{high, 996, 1, 9}, false, 999},
		{stay{high, 996, 1, 6}, false, 999},
		{stay{high, 999, 1, 9}, true, 999},
		{stay{high, 996, 2, 6}, false, -1},
		{stay{high, 996, 2, 5}, true, 996},
		// The hours 996 to 1007 have the depths from 0 on.
		{stay{halfDay, 0, 5, 60}, false, 4},
		{stay{halfDay, 4, 5, 60}, true, 4},
		{stay{halfDay, 4, 6, 60}, false, -1},
		{stay{halfDay, 5, 5, 60}, false, 16},
		{stay{halfDay, 5, 4, 61}, true, 5},
		{stay{halfDay, 11, 1, 8}, false, 13},
		{stay{halfDay, 11, 1, 7}, true, 11},
		{stay{halfDay, 7, 1, 99}, false, 18},
		{stay{halfDay, 11, 2, 0}, true, 11},
		{stay{halfDay, 0, 11, 7}, false, 1},
		{stay{halfDay, 2, 11, 7}, false, 13},
		{stay{halfDay, 2, 11, 8}, false, -1},
		{stay{halfDay, 2, 12, 0}, true, 2},
		{stay{halfDay, 2, 12, 1}, false, -1},
		{stay{halfDay, 2, 13, 0}, true, 2},
		{stay{halfDay, 2, 25, 1}, false, -1},
		{stay{halfDay, 991, 1, 47}, true, 991},
		{stay{halfDay, 993, 1, 47}, false, 999},
		{stay{halfDay, 991, 3, 47}, false, 999},
		{stay{halfDay, 991, 8, 40}, false, -1},
		{stay{halfDay, 991, 7, 40}, false, 999},
		{stay{halfDay, 991, 1, 48}, true, 991},
		{stay{halfDay, 994, 1, 48}, false, -1},
		{stay{halfDay, 999, 1, 99}, false, -1},
	}
}

func TestDeepForKnownStays(t *testing.T) {
	for _, k := range append(knownStays(), otherKnownStays()...) {
		if got := k.stay.deep(); got != k.deep {
			t.Errorf("DeepFor of %+v is %t, not %t", k.stay, got, k.deep)
		}
	}
}

func TestNextDeepOfKnownStays(t *testing.T) {
	for _, k := range append(knownStays(), otherKnownStays()...) {
		if got := k.stay.next(); got != k.next {
			t.Errorf("NextDeep of %+v is %d, not %d", k.stay, got, k.next)
		}
	}
}

func TestDeepMostOfKnownStays(t *testing.T) {
	for _, k := range []struct {
		tide             []int
		hour, many, want int
	}{
		{fourHours, 0, 1, 3},
		{fourHours, 1, 1, 8},
		{fourHours, 1, 2, 8},
		{fourHours, 1, 3, 5},
		{fourHours, 1, 4, 3},
		{fourHours, 1, 5, 3},
		{fourHours, 1, 9, 3},
		{fourHours, 1, 999, 3},
		{fourHours, 2, 2, 5},
		{fourHours, 2, 3, 3},
		{fourHours, 3, 1, 5},
		{fourHours, 3, 2, 3},
		{fourHours, 5, 2, 8},
		{fourHours, 5, 3, 5},
		{fourHours, 6, 1, 9},
		// The last hours.
		{fourHours, 997, 2, 8},
		{fourHours, 998, 1, 9},
		{fourHours, 998, 2, 5},
		{fourHours, 999, 1, 5},
		{fourHours, 999, 2, 3},
		{fourHours, 999, 4, 3},
		{fourHours, 999, 999, 3},
		// As many hours as there may be, and one.
		{halfDay, 0, 1, 0},
		{halfDay, 4, 3, 60},
		{halfDay, 4, 5, 60},
		{halfDay, 3, 7, 40},
		{halfDay, 6, 1, 99},
		{halfDay, 18, 1, 99},
		{halfDay, 11, 1, 7},
		{halfDay, 11, 2, 0},
		{halfDay, 1, 11, 7},
		{halfDay, 13, 11, 7},
		{halfDay, 1, 12, 0},
		{halfDay, 1, 13, 0},
		{halfDay, 999, 1, 47},
		{halfDay, 999, 3, 47},
		{halfDay, 999, 7, 40},
		{[]int{0}, 5, 1, 0},
		{[]int{99}, 5, 1, 99},
		{[]int{99}, 999, 999, 99},
		{[]int{98, 99}, 1, 1, 99},
		{[]int{98, 99}, 1, 2, 98},
		// No hours.
		{fourHours, 1, 0, -1},
		{fourHours, 999, 0, -1},
		{[]int{0}, 0, 0, -1},
		{halfDay, 0, 0, -1},
	} {
		if got := impl.DeepMost(k.tide, k.hour, k.many); got != k.want {
			t.Errorf("DeepMost of %v, %d, %d is %d, not %d", k.tide, k.hour, k.many, got, k.want)
		}
	}
}

// checkStay holds all that is told of a stay against the document, with what hourByHour and deepInARow tell.
func checkStay(t *testing.T, s stay, depths []int, rows []int) {
	t.Helper()
	if got, want := s.deep(), rows[s.hour] >= s.many; got != want {
		t.Fatalf("DeepFor of %+v is %t, not %t", s, got, want)
	}
	if got, want := s.next(), nextHourOf(s, rows); got != want {
		t.Fatalf("NextDeep of %+v is %d, not %d", s, got, want)
	}
	if got, want := s.most(), mostDepthOf(s, depths); got != want {
		t.Fatalf("DeepMost of %+v is %d, not %d", s, got, want)
	}
}

// Of all stays every answer is held against the document.
func TestAllStays(t *testing.T) {
	for _, tide := range validTides() {
		depths := hourByHour(tide)
		for _, depth := range depthsFor(tide) {
			rows := deepInARow(depths, depth)
			for _, many := range countsFor(tide) {
				for _, hour := range hoursFor(tide) {
					checkStay(t, stay{tide, hour, many, depth}, depths, rows)
				}
			}
		}
	}
}

// All hours, and all numbers of hours from some of them on.
func TestAllHoursOfFewTides(t *testing.T) {
	for _, tide := range fewTides() {
		depths := hourByHour(tide)
		for _, depth := range append([]int{slices.Min(tide) + 1}, tide...) {
			rows := deepInARow(depths, depth)
			for number := range 1000 {
				for _, s := range []stay{{tide, number, 1, depth}, {tide, number, 2, depth}, {tide, number, len(tide), depth}, {tide, 0, number, depth}, {tide, 5, number, depth}, {tide, 993, number, depth}, {tide, 999, number, depth}} {
					checkStay(t, s, depths, rows)
				}
			}
		}
	}
}

// Where there is no hour, only those of two periods are looked through here; the next test looks through all.
func TestP14ThereIsNoEarlierHour(t *testing.T) {
	own, later, behind, none := 0, 0, 0, 0
	for s := range everyStay {
		next := s.next()
		end := next
		switch {
		case next == -1:
			end = min(s.hour+2*len(s.tide), 1000)
			none++
		case next == s.hour:
			own++
		case next/len(s.tide) == s.hour/len(s.tide):
			later++
		default:
			behind++
		}
		if next != -1 && (next < s.hour || next > 999 || !s.from(next).deep()) {
			t.Fatalf("NextDeep of %+v is %d", s, next)
		}
		for hour := s.hour; hour < end; hour++ {
			if s.from(hour).deep() {
				t.Fatalf("NextDeep of %+v is %d, but it is deep enough from %d on", s, next, hour)
			}
		}
	}
	if own < 1000 || later < 1000 || behind < 1000 || none < 1000 {
		t.Fatalf("%d stays begin at once, %d later in the period, %d behind its end, %d never", own, later, behind, none)
	}
}

// What is never deep enough is not so in any hour up to MaxHour; in some of these cases it would be behind it.
func TestP14ThereIsNoHour(t *testing.T) {
	soon, never := 0, 0
	for _, tide := range fewTides() {
		for _, many := range countsFor(tide) {
			for _, depth := range tide {
				for _, hour := range []int{0, 1, 500, 1000 - len(tide), 998, 999} {
					s := stay{tide, hour, many, depth}
					if s.next() != -1 {
						continue
					}
					for at := hour; at <= 999; at++ {
						if s.from(at).deep() {
							t.Fatalf("NextDeep of %+v is -1, but it is deep enough from %d on", s, at)
						}
					}
					if s.from(0).next() != -1 {
						soon++
					} else {
						never++
					}
				}
			}
		}
	}
	if soon < 100 || never < 100 {
		t.Fatalf("%d stays would be behind MaxHour, and %d are in no period", soon, never)
	}
}

// The answer is the same from every hour up to it on, and from none behind it.
func TestNextDeepFromLaterHours(t *testing.T) {
	for s := range everyStay {
		next := s.next()
		if next == -1 {
			continue
		}
		for hour := s.hour; hour <= next; hour++ {
			if got := s.from(hour).next(); got != next {
				t.Fatalf("NextDeep of %+v is %d, but from %d on it is %d", s, next, hour, got)
			}
		}
		if got := s.from(next + 1).next(); got == next {
			t.Fatalf("NextDeep of %+v is %d, also from the hour behind it on", s, next)
		}
	}
}

func TestP96LessIsAskedForMoreEasily(t *testing.T) {
	deep, shallow := 0, 0
	for s := range everyStay {
		if !s.deep() {
			shallow++
			continue
		}
		deep++
		if fewer := (stay{s.tide, s.hour, s.many - 1, s.depth}); s.many > 0 && !fewer.deep() {
			t.Fatalf("%+v is deep enough, but not for one hour less", s)
		}
		if s.depth > math.MinInt && !s.atDepth(s.depth-1).deep() {
			t.Fatalf("%+v is deep enough, but not for a depth that is less by 1", s)
		}
		if next := s.next(); next != s.hour {
			t.Fatalf("%+v is deep enough, but NextDeep is %d", s, next)
		}
	}
	if deep < 1000 || shallow < 1000 {
		t.Fatalf("%d stays are deep enough, and %d are not", deep, shallow)
	}
}

func TestP97NoShipOfMoreDraughtCanStay(t *testing.T) {
	found := map[int]int{}
	for s := range everyStay {
		if s.many == 0 {
			continue
		}
		most := s.most()
		found[most]++
		if !slices.Contains(s.tide, most) {
			t.Fatalf("DeepMost of %+v is %d", s, most)
		}
		if !s.atDepth(most).deep() {
			t.Fatalf("DeepMost of %+v is %d, which is not deep enough", s, most)
		}
		if s.atDepth(most + 1).deep() {
			t.Fatalf("DeepMost of %+v is %d, but one more is deep enough", s, most)
		}
		// All other depths go by it, too.
		if s.deep() != (s.depth <= most) {
			t.Fatalf("DeepMost of %+v is %d, but DeepFor is %t", s, most, s.deep())
		}
	}
	if found[0] < 100 || found[50] < 100 || found[99] < 100 {
		t.Fatalf("%d stays have the depth 0, %d have 50, %d have 99", found[0], found[50], found[99])
	}
}

// A whole period has the least depth of all hours, whenever it begins and whatever comes behind it.
func TestDeepMostOfWholePeriods(t *testing.T) {
	for _, tide := range validTides() {
		least := slices.Min(tide)
		for _, hour := range hoursFor(tide) {
			for _, many := range []int{len(tide), len(tide) + 1, 2 * len(tide), 2*len(tide) + 1, 998, 999} {
				if got := impl.DeepMost(tide, hour, many); got != least {
					t.Fatalf("DeepMost of %v, %d, %d is %d, not %d", tide, hour, many, got, least)
				}
			}
			if got := impl.DeepMost(tide, hour, 1); got != impl.DepthAt(tide, hour) {
				t.Fatalf("DeepMost of %v, %d, for one hour is %d", tide, hour, got)
			}
		}
	}
}

// checkNoStay holds the fixed results of invalid arguments.
func checkNoStay(t *testing.T, s stay) {
	t.Helper()
	if s.deep() {
		t.Fatalf("DeepFor of %+v holds", s)
	}
	if got := s.next(); got != -1 {
		t.Fatalf("NextDeep of %+v is %d, not -1", s, got)
	}
	if got := s.most(); got != -1 {
		t.Fatalf("DeepMost of %+v is %d, not -1", s, got)
	}
}

// wrongHours are neither hours nor numbers of hours that can be asked for.
var wrongHours = append([]int{-1, -2, -12, -999, -1000, 1000, 1001, 1004, 1008, 1998, 1999, 999 + 1<<32, 999 - 1<<32}, slices.DeleteFunc(slices.Clone(farNumbers), func(number int) bool { return number == 100 })...)

func TestStaysOfOtherHours(t *testing.T) {
	for _, tide := range validTides() {
		for _, wrong := range wrongHours {
			for _, depth := range []int{math.MinInt, -1, 0, slices.Min(tide), slices.Max(tide), 100, math.MaxInt} {
				for _, number := range []int{0, 1, len(tide), len(tide) + 1, 999} {
					checkNoStay(t, stay{tide, wrong, number, depth})
					checkNoStay(t, stay{tide, number, wrong, depth})
				}
				checkNoStay(t, stay{tide, wrong, wrong, depth})
			}
		}
	}
}

func TestTidesThatAreNotValid(t *testing.T) {
	for _, tide := range invalidTides() {
		for _, hour := range append([]int{0, 1, 3, 11, 12, 999, 1000, -1}, farNumbers...) {
			if got := impl.DepthAt(tide, hour); got != -1 {
				t.Fatalf("DepthAt of %v, %d is %d, not -1", tide, hour, got)
			}
		}
		for _, hour := range []int{0, 1, 11, 999, 1000, -1, math.MaxInt} {
			for _, many := range []int{0, 1, 2, 12, 999, 1000, -1, math.MaxInt} {
				for _, depth := range []int{math.MinInt, -1, 0, 5, 99, 100, math.MaxInt} {
					checkNoStay(t, stay{tide, hour, many, depth})
				}
			}
		}
	}
}

// tideAnswers has all that is told of a stay and its tide.
type tideAnswers struct {
	valid      bool
	depth      int
	deep       bool
	next, most int
}

func tideAnswersOf(s stay) tideAnswers {
	return tideAnswers{impl.TideValid(s.tide), impl.DepthAt(s.tide, s.hour), s.deep(), s.next(), s.most()}
}

// What is behind the end of the tide is read, too.
func TestTidesAreNotChanged(t *testing.T) {
	for _, tide := range append(validTides(), invalidTides()...) {
		whole := append(slices.Clone(tide), -7, -8, -9)
		own := whole[:len(tide)]
		for _, hour := range []int{0, 1, len(tide) - 1, len(tide), 999, -1, 1000} {
			for _, many := range []int{0, 1, len(tide), len(tide) + 1, 999, -1, 1000} {
				for _, depth := range []int{-1, 0, 5, 99, 100} {
					tideAnswersOf(stay{own, hour, many, depth})
				}
			}
		}
		if !slices.Equal(whole, append(slices.Clone(tide), -7, -8, -9)) {
			t.Fatalf("%v was changed to %v", tide, whole)
		}
	}
}

// All tides come in the same memory, one after the other, and then the other way round.
func TestTidesKeepNothingFromCallToCall(t *testing.T) {
	var list []stay
	for _, tide := range append(validTides(), invalidTides()...) {
		for _, hour := range []int{0, 5, 998, 1000} {
			for _, many := range []int{0, 2, 999} {
				list = append(list, stay{tide, hour, many, 50})
			}
		}
	}
	memory := make([]int, 1000)
	ask := func(s stay) tideAnswers {
		own := memory[:copy(memory, s.tide)]
		return tideAnswersOf(stay{own, s.hour, s.many, s.depth})
	}
	var first []tideAnswers
	for _, s := range list {
		first = append(first, ask(s))
	}
	for i := len(list) - 1; i >= 0; i-- {
		if again := ask(list[i]); again != first[i] {
			t.Fatalf("the answers for %+v are %+v, and were %+v", list[i], again, first[i])
		}
		if own := tideAnswersOf(list[i]); own != first[i] {
			t.Fatalf("the answers for %+v are %+v, but in other memory %+v", list[i], own, first[i])
		}
	}
}
