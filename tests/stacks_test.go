package tests

import (
	"math"
	"slices"
	"testing"

	"loop.example/containerport/impl"
)

// stackIds has the first and the last id, and one id more than a stack can have.
var stackIds = []int{500, 1, 999, 17, 2, 998}

// idsNotValid has ids just and far outside the bounds; the last two are 17 and 999 if what is above 32 bits is lost.
var idsNotValid = []int{0, -1, -17, 1000, 1001, math.MinInt, math.MaxInt, 17 + 1<<32, 999 - 1<<32}

// highsNotValid has heights just and far outside the bounds; the last two are 3 and 5 if what is above 32 bits is lost.
var highsNotValid = []int{0, -1, -5, 6, 7, 10, math.MinInt, math.MaxInt, 3 + 1<<32, 5 - 1<<32}

// idLists has all lists of so many different ones of stackIds.
func idLists(many int) [][]int {
	if many == 0 {
		return [][]int{{}}
	}
	var lists [][]int
	for _, shorter := range idLists(many - 1) {
		for _, id := range stackIds {
			if !slices.Contains(shorter, id) {
				lists = append(lists, append(slices.Clone(shorter), id))
			}
		}
	}
	return lists
}

// highStack is a stack with what it may be high.
type highStack struct {
	boxes []int
	high  int
}

// validStacks has for every height the stacks from those without boxes to the full ones.
func validStacks() []highStack {
	var list []highStack
	for high := 1; high <= 5; high++ {
		list = append(list, highStack{nil, high})
		for many := range high + 1 {
			for _, s := range idLists(many) {
				list = append(list, highStack{s, high})
			}
		}
	}
	return list
}

// invalidStacks has stacks that are not valid for their height, their number of boxes, one id, or two equal ids.
func invalidStacks() []highStack {
	list := []highStack{}
	for _, high := range highsNotValid {
		list = append(list, highStack{nil, high})
		for many := range 6 {
			list = append(list, highStack{slices.Clone(stackIds[:many]), high})
		}
	}
	for high := 1; high <= 5; high++ {
		for _, s := range idLists(high + 1) {
			list = append(list, highStack{s, high})
		}
		list = append(list, highStack{numberedIds(high + 2), high}, highStack{numberedIds(999), high})
		for many := 1; many <= high; many++ {
			list = append(list, wrongIds(many, high)...)
		}
	}
	return list
}

// wrongIds has stacks of so many boxes with one id that is not valid, or one that comes twice.
func wrongIds(many int, high int) []highStack {
	var list []highStack
	for place := range many {
		for _, id := range idsNotValid {
			s := slices.Clone(stackIds[:many])
			s[place] = id
			list = append(list, highStack{s, high})
		}
		for other := range place {
			s := slices.Clone(stackIds[:many])
			s[place] = s[other]
			list = append(list, highStack{s, high})
		}
	}
	return list
}

// numberedIds has the ids from 1 on.
func numberedIds(many int) []int {
	var list []int
	for id := 1; id <= many; id++ {
		list = append(list, id)
	}
	return list
}

func TestConstantOfStacks(t *testing.T) {
	if impl.MaxHigh != 5 {
		t.Errorf("MaxHigh is %d", impl.MaxHigh)
	}
}

func TestStackValidOfKnownStacks(t *testing.T) {
	for _, k := range []struct {
		boxes []int
		high  int
		want  bool
	}{
		{nil, 1, true},
		{[]int{}, 5, true},
		{nil, 0, false},
		{nil, 6, false},
		{[]int{1}, 1, true},
		{[]int{999}, 1, true},
		{[]int{1, 999}, 1, false},
		{[]int{0}, 1, false},
		{[]int{-1}, 1, false},
		{[]int{1000}, 1, false},
		{[]int{7, 3, 9}, 3, true},
		{[]int{7, 3, 9}, 2, false},
		{[]int{7, 3, 9}, 4, true},
		{[]int{7, 3, 9}, 6, false},
		{[]int{7, 3, 9}, -3, false},
		{[]int{7, 7}, 3, false},
		{[]int{7, 3, 7}, 3, false},
		{[]int{3, 7, 7}, 3, false},
		{[]int{999, 1, 500, 2, 998}, 5, true},
		{[]int{999, 1, 500, 2, 998}, 4, false},
		{[]int{999, 1, 500, 2, 999}, 5, false},
		{[]int{999, 1, 500, 2, 998, 3}, 5, false},
		{[]int{999, 1, 500, 2, 998, 3}, 6, false},
	} {
		if got := impl.StackValid(k.boxes, k.high); got != k.want {
			t.Errorf("StackValid of %v, %d is %v", k.boxes, k.high, got)
		}
	}
}

func TestStackValidOfEveryId(t *testing.T) {
	for id := -1001; id <= 2001; id++ {
		want := 1 <= id && id <= 999
		for high := 1; high <= 5; high++ {
			if got := impl.StackValid([]int{id}, high); got != want {
				t.Errorf("StackValid of the id %d alone, %d is %v", id, high, got)
			}
		}
	}
}

func TestStackValidOfEveryHeight(t *testing.T) {
	for many := range 12 {
		for high := -3; high <= 12; high++ {
			want := 1 <= high && high <= 5 && many <= high
			if got := impl.StackValid(numberedIds(many), high); got != want {
				t.Errorf("StackValid of %d boxes, %d is %v", many, high, got)
			}
		}
	}
}

func TestStackValidOfValidStacks(t *testing.T) {
	for _, s := range validStacks() {
		if !impl.StackValid(s.boxes, s.high) {
			t.Errorf("%+v is not valid", s)
		}
	}
}

func TestStackValidOfOtherStacks(t *testing.T) {
	for _, s := range invalidStacks() {
		if impl.StackValid(s.boxes, s.high) {
			t.Errorf("%.60v, %d is valid", s.boxes, s.high)
		}
	}
}

func TestP51StacksMayBeLower(t *testing.T) {
	for _, s := range validStacks() {
		if len(s.boxes) == 0 {
			continue
		}
		top := len(s.boxes) - 1
		if !impl.StackValid(s.boxes[:top], s.high) {
			t.Errorf("%+v is not valid without its highest box", s)
		}
		for high := s.high; high <= 5; high++ {
			if impl.StackValid(append(slices.Clone(s.boxes), s.boxes[top]), high) {
				t.Errorf("%v is valid for %d with its highest box twice", s.boxes, high)
			}
		}
	}
}

// checkPut asks twice, so that it shows if the first answer leaves something behind.
func checkPut(t *testing.T, s []int, high int, id int, want []int, wantOk bool) {
	t.Helper()
	for range 2 {
		if got, ok := impl.StackPut(s, high, id); !slices.Equal(got, want) || ok != wantOk {
			t.Errorf("StackPut of %.60v, %d, %d is %v, %v, not %v, %v", s, high, id, got, ok, want, wantOk)
		}
	}
}

func TestStackPutOnKnownStacks(t *testing.T) {
	full := []int{999, 1, 500, 2, 998}
	checkPut(t, nil, 1, 1, []int{1}, true)
	checkPut(t, []int{}, 5, 999, []int{999}, true)
	checkPut(t, []int{7, 3, 9}, 4, 8, []int{7, 3, 9, 8}, true)
	checkPut(t, []int{7, 3, 9}, 5, 999, []int{7, 3, 9, 999}, true)
	checkPut(t, full[:4], 5, 998, full, true)
	// Full.
	checkPut(t, []int{1}, 1, 2, []int{1}, false)
	checkPut(t, []int{7, 3, 9}, 3, 8, []int{7, 3, 9}, false)
	checkPut(t, full, 5, 3, full, false)
	// The lowest, a middle and the highest one of the stack.
	checkPut(t, []int{7, 3, 9}, 4, 7, []int{7, 3, 9}, false)
	checkPut(t, []int{7, 3, 9}, 4, 3, []int{7, 3, 9}, false)
	checkPut(t, []int{7, 3, 9}, 4, 9, []int{7, 3, 9}, false)
	checkPut(t, full, 5, 500, full, false)
	// No ids.
	checkPut(t, []int{7, 3, 9}, 4, 0, []int{7, 3, 9}, false)
	checkPut(t, []int{7, 3, 9}, 4, -7, []int{7, 3, 9}, false)
	checkPut(t, []int{7, 3, 9}, 4, 1000, []int{7, 3, 9}, false)
	checkPut(t, nil, 1, 0, nil, false)
	// Stacks that are not valid.
	checkPut(t, []int{7, 3, 9}, 2, 8, nil, false)
	checkPut(t, []int{7, 3, 9}, 6, 8, nil, false)
	checkPut(t, []int{7, 7}, 3, 8, nil, false)
	checkPut(t, []int{7, 0}, 3, 8, nil, false)
	checkPut(t, nil, 0, 8, nil, false)
}

func TestP52WhatWasPutLastIsTakenFirst(t *testing.T) {
	for _, s := range validStacks() {
		for _, id := range append([]int{3, 997}, stackIds...) {
			if slices.Contains(s.boxes, id) || len(s.boxes) == s.high {
				continue
			}
			higher, ok := impl.StackPut(s.boxes, s.high, id)
			if top := len(s.boxes); !ok || len(higher) != top+1 || higher[top] != id || !slices.Equal(higher[:top], s.boxes) {
				t.Fatalf("StackPut of %+v, %d is %v, %v", s, id, higher, ok)
			}
			if !impl.StackValid(higher, s.high) {
				t.Fatalf("%v is not valid for %d", higher, s.high)
			}
			if lower, taken := impl.StackTake(higher, s.high); taken != id || !slices.Equal(lower, s.boxes) {
				t.Fatalf("StackTake of %v, %d is %v, %d", higher, s.high, lower, taken)
			}
		}
	}
}

func TestStackPutThatIsRefused(t *testing.T) {
	for _, s := range validStacks() {
		refused := append(slices.Clone(idsNotValid), s.boxes...)
		if len(s.boxes) == s.high {
			refused = append(refused, 3, 997)
			refused = append(refused, stackIds...)
		}
		for _, id := range refused {
			checkPut(t, s.boxes, s.high, id, s.boxes, false)
		}
	}
}

func TestStackPutOnOtherStacks(t *testing.T) {
	for _, s := range invalidStacks() {
		for _, id := range append([]int{3, 17, 0, 1000}, s.boxes[:min(len(s.boxes), 6)]...) {
			checkPut(t, s.boxes, s.high, id, nil, false)
		}
	}
}

// checkTake asks twice, as checkPut does.
func checkTake(t *testing.T, s []int, high int, want []int, wantId int) {
	t.Helper()
	for range 2 {
		if got, id := impl.StackTake(s, high); !slices.Equal(got, want) || id != wantId {
			t.Errorf("StackTake of %.60v, %d is %v, %d, not %v, %d", s, high, got, id, want, wantId)
		}
	}
}

func TestStackTakeOffKnownStacks(t *testing.T) {
	checkTake(t, []int{7, 3, 9}, 3, []int{7, 3}, 9)
	checkTake(t, []int{7, 3, 9}, 5, []int{7, 3}, 9)
	checkTake(t, []int{7, 3}, 3, []int{7}, 3)
	checkTake(t, []int{1}, 1, nil, 1)
	checkTake(t, []int{999}, 5, nil, 999)
	checkTake(t, []int{999, 1, 500, 2, 998}, 5, []int{999, 1, 500, 2}, 998)
	// Empty.
	checkTake(t, nil, 1, nil, -1)
	checkTake(t, []int{}, 5, nil, -1)
	// Stacks that are not valid.
	checkTake(t, nil, 0, nil, -1)
	checkTake(t, nil, 6, nil, -1)
	checkTake(t, []int{7, 3, 9}, 2, nil, -1)
	checkTake(t, []int{7, 3, 9}, 6, nil, -1)
	checkTake(t, []int{7, 3, 7}, 3, nil, -1)
	checkTake(t, []int{7, 3, 1000}, 3, nil, -1)
	checkTake(t, []int{0, 3, 7}, 3, nil, -1)
}

func TestP53WhatWasTakenCanBePutBack(t *testing.T) {
	for _, s := range validStacks() {
		lower, id := impl.StackTake(s.boxes, s.high)
		if len(s.boxes) == 0 {
			if len(lower) != 0 || id != -1 {
				t.Errorf("StackTake of %+v is %v, %d", s, lower, id)
			}
			continue
		}
		if top := len(s.boxes) - 1; id != s.boxes[top] || !slices.Equal(lower, s.boxes[:top]) {
			t.Fatalf("StackTake of %+v is %v, %d", s, lower, id)
		}
		if back, ok := impl.StackPut(lower, s.high, id); !ok || !slices.Equal(back, s.boxes) {
			t.Fatalf("StackPut of %v, %d, %d is %v, %v", lower, s.high, id, back, ok)
		}
	}
}

func TestStackTakeOffOtherStacks(t *testing.T) {
	for _, s := range invalidStacks() {
		checkTake(t, s.boxes, s.high, nil, -1)
	}
}

func TestStackAboveInKnownStacks(t *testing.T) {
	five := []int{999, 1, 500, 2, 998}
	for _, k := range []struct {
		boxes []int
		high  int
		id    int
		want  int
	}{
		{[]int{7, 3, 9}, 3, 7, 2},
		{[]int{7, 3, 9}, 3, 3, 1},
		{[]int{7, 3, 9}, 3, 9, 0},
		{[]int{7, 3, 9}, 5, 7, 2},
		{[]int{7, 3, 9}, 3, 8, -1},
		{[]int{7, 3, 9}, 3, 0, -1},
		{[]int{7, 3, 9}, 3, 2, -1},
		{[]int{1}, 1, 1, 0},
		{[]int{1}, 1, 0, -1},
		{[]int{999}, 5, 999, 0},
		{five, 5, 999, 4},
		{five, 5, 1, 3},
		{five, 5, 500, 2},
		{five, 5, 2, 1},
		{five, 5, 998, 0},
		{five, 5, 997, -1},
		{nil, 1, 1, -1},
		{nil, 5, 0, -1},
		// Stacks that are not valid.
		{nil, 0, 7, -1},
		{five, 4, 999, -1},
		{five, 6, 999, -1},
		{[]int{7, 3, 9}, 0, 9, -1},
		{[]int{7, 7}, 3, 7, -1},
		{[]int{7, 3, 7}, 3, 3, -1},
		{[]int{7, 0}, 3, 7, -1},
		{[]int{7, 1000}, 3, 1000, -1},
	} {
		if got := impl.StackAbove(k.boxes, k.high, k.id); got != k.want {
			t.Errorf("StackAbove of %v, %d, %d is %d, not %d", k.boxes, k.high, k.id, got, k.want)
		}
	}
}

func TestP54SoManyBoxesMustBeTakenFirst(t *testing.T) {
	for _, s := range validStacks() {
		for place, id := range s.boxes {
			above := impl.StackAbove(s.boxes, s.high, id)
			if above != len(s.boxes)-place-1 {
				t.Fatalf("StackAbove of %+v, %d is %d", s, id, above)
			}
			lower := s.boxes
			for range above {
				taken := 0
				if lower, taken = impl.StackTake(lower, s.high); taken == id || taken == -1 {
					t.Fatalf("of the %d boxes above %d in %+v one is %d", above, id, s, taken)
				}
			}
			if _, taken := impl.StackTake(lower, s.high); taken != id {
				t.Fatalf("above %d in %+v there are not %d boxes, but %d is then the highest one", id, s, above, taken)
			}
		}
	}
}

func TestStackAboveOfOtherIds(t *testing.T) {
	for _, s := range validStacks() {
		for _, id := range slices.Concat(stackIds, idsNotValid, []int{3, 997}) {
			if got := impl.StackAbove(s.boxes, s.high, id); got != -1 && !slices.Contains(s.boxes, id) {
				t.Errorf("StackAbove of %+v, %d is %d, not -1", s, id, got)
			}
		}
	}
}

func TestStackAboveInOtherStacks(t *testing.T) {
	for _, s := range invalidStacks() {
		for _, id := range append([]int{3, 17, 0, 1000}, s.boxes[:min(len(s.boxes), 6)]...) {
			if got := impl.StackAbove(s.boxes, s.high, id); got != -1 {
				t.Errorf("StackAbove of %.60v, %d, %d is %d, not -1", s.boxes, s.high, id, got)
			}
		}
	}
}

func TestStacksAreNotChanged(t *testing.T) {
	for _, s := range append(validStacks(), invalidStacks()...) {
		// Beyond the end there is room, which is not to be written to either.
		whole := append(slices.Clone(s.boxes), -7, -8, -9)
		before := slices.Clone(whole)
		boxes := whole[:len(s.boxes)]
		for _, id := range []int{3, 0, 500} {
			impl.StackValid(boxes, s.high)
			impl.StackPut(boxes, s.high, id)
			impl.StackTake(boxes, s.high)
			impl.StackAbove(boxes, s.high, id)
		}
		if !slices.Equal(whole, before) {
			t.Fatalf("%v was changed to %v", before, whole)
		}
	}
}

// overwrite writes to all the memory of a list, also beyond its end.
func overwrite(list []int) {
	for i := range list[:cap(list)] {
		list[:cap(list)][i] = -5
	}
}

func TestStacksShareNoMemory(t *testing.T) {
	for _, s := range validStacks() {
		whole := append(slices.Clone(s.boxes), -7, -8, -9)
		before := slices.Clone(whole)
		boxes := whole[:len(s.boxes)]
		for _, id := range []int{3, 0, 500} {
			put, ok := impl.StackPut(boxes, s.high, id)
			taken, _ := impl.StackTake(boxes, s.high)
			want := slices.Clone(put)
			overwrite(taken)
			if !slices.Equal(put, want) || !slices.Equal(whole, before) {
				t.Fatalf("what StackTake of %+v returns is also in %v or %v", s, put, whole)
			}
			overwrite(put)
			if !slices.Equal(whole, before) {
				t.Fatalf("what StackPut of %+v, %d returns, with %v, is also in %v", s, id, ok, whole)
			}
		}
	}
}
