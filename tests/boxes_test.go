package tests

import (
	"fmt"
	"math"
	"regexp"
	"slices"
	"strconv"
	"strings"
	"testing"

	"loop.example/containerport/impl"
)

// knownBoxes has the first and the last id, weight, class and port, with texts written out by hand.
var knownBoxes = []struct {
	box  impl.Box
	text string
}{
	{impl.Box{Id: 17, Weight: 20, Class: 1, Port: 3, Cold: true}, "17:20/1/3c"},
	{impl.Box{Id: 17, Weight: 20, Class: 1, Port: 3}, "17:20/1/3"},
	{impl.Box{Id: 1, Weight: 1, Class: 0, Port: 0}, "1:1/0/0"},
	{impl.Box{Id: 1, Weight: 1, Class: 0, Port: 0, Cold: true}, "1:1/0/0c"},
	{impl.Box{Id: 999, Weight: 30, Class: 3, Port: 6}, "999:30/3/6"},
	{impl.Box{Id: 999, Weight: 30, Class: 3, Port: 6, Cold: true}, "999:30/3/6c"},
	{impl.Box{Id: 999, Weight: 1, Class: 3, Port: 0}, "999:1/3/0"},
	{impl.Box{Id: 1, Weight: 30, Class: 0, Port: 6}, "1:30/0/6"},
	{impl.Box{Id: 9, Weight: 10, Class: 2, Port: 5}, "9:10/2/5"},
	{impl.Box{Id: 10, Weight: 9, Class: 2, Port: 1, Cold: true}, "10:9/2/1c"},
	{impl.Box{Id: 100, Weight: 29, Class: 1, Port: 4}, "100:29/1/4"},
	{impl.Box{Id: 305, Weight: 11, Class: 0, Port: 2, Cold: true}, "305:11/0/2c"},
}

// boxFields has every field that is a number, with its least and its greatest value.
var boxFields = []struct {
	name     string
	least    int
	greatest int
	set      func(b *impl.Box, value int)
}{
	{"Id", 1, 999, func(b *impl.Box, value int) { b.Id = value }},
	{"Weight", 1, 30, func(b *impl.Box, value int) { b.Weight = value }},
	{"Class", 0, 3, func(b *impl.Box, value int) { b.Class = value }},
	{"Port", 0, 6, func(b *impl.Box, value int) { b.Port = value }},
}

// invalidBoxes has each known box with one field just or far outside its bounds, and the box without anything.
func invalidBoxes() []impl.Box {
	list := []impl.Box{{}, {Cold: true}}
	for _, k := range knownBoxes {
		for _, f := range boxFields {
			for _, value := range []int{
				f.least - 1, f.least - 2, -f.greatest, math.MinInt, -1 << 32, f.least - 1<<32,
				f.greatest + 1, f.greatest + 2, f.greatest * 10, math.MaxInt, 1 << 32, f.greatest + 1<<32,
			} {
				if value < f.least || value > f.greatest {
					b := k.box
					f.set(&b, value)
					list = append(list, b)
				}
			}
		}
	}
	return list
}

// everyBox yields all valid boxes, and nothing else.
func everyBox(yield func(impl.Box) bool) {
	for i := range 999 * 30 * 4 * 7 * 2 {
		b := impl.Box{Id: i/1680 + 1, Weight: i/56%30 + 1, Class: i / 14 % 4, Port: i / 2 % 7, Cold: i%2 == 1}
		if !yield(b) {
			return
		}
	}
}

// manyBoxes has MaxBoxes valid boxes, whose ids neither ascend nor descend; some have all but the id in common.
func manyBoxes() []impl.Box {
	return []impl.Box{
		{Id: 500, Weight: 7, Class: 1, Port: 2},
		{Id: 999, Weight: 30, Class: 3, Port: 6, Cold: true},
		{Id: 1, Weight: 1},
		{Id: 2, Weight: 1},
		{Id: 998, Weight: 30, Class: 3, Port: 6, Cold: true},
		{Id: 17, Weight: 20, Class: 1, Port: 3, Cold: true},
		{Id: 4, Weight: 9},
		{Id: 40, Weight: 9, Port: 4},
		{Id: 400, Weight: 13, Class: 2, Cold: true},
		{Id: 50, Weight: 28, Class: 2, Port: 5},
	}
}

// validLists has a list of each length that may be, and those of the same boxes in the other direction.
func validLists() [][]impl.Box {
	var lists [][]impl.Box
	for n := range 11 {
		list := manyBoxes()[:n:n]
		other := slices.Clone(list)
		slices.Reverse(other)
		lists = append(lists, list, other)
	}
	return append(lists, nil)
}

// invalidLists has lists that are not valid for one reason each: one box, two equal ids, or one box too many.
func invalidLists() [][]impl.Box {
	var lists [][]impl.Box
	for n := 1; n <= 10; n++ {
		for i := range n {
			for _, f := range boxFields {
				for _, value := range []int{f.least - 1, f.greatest + 1} {
					list := manyBoxes()[:n]
					f.set(&list[i], value)
					lists = append(lists, list)
				}
			}
			for j := range i {
				list := manyBoxes()[:n]
				list[i].Id = list[j].Id
				twice := manyBoxes()[:n]
				twice[i] = twice[j]
				lists = append(lists, list, twice)
			}
		}
	}
	return append(lists, append(manyBoxes(), impl.Box{Id: 3, Weight: 3}), numberedBoxes(11), numberedBoxes(999))
}

// numberedBoxes has boxes with the ids from 1 on.
func numberedBoxes(many int) []impl.Box {
	var list []impl.Box
	for i := range many {
		list = append(list, impl.Box{Id: i + 1, Weight: 5})
	}
	return list
}

func TestConstantsOfBoxes(t *testing.T) {
	got := [5]int{impl.MaxId, impl.MaxWeight, impl.MaxClass, impl.MaxPort, impl.MaxBoxes}
	if got != [5]int{999, 30, 3, 6, 10} {
		t.Errorf("the constants are %v", got)
	}
}

func TestBoxValidOfEveryBox(t *testing.T) {
	for b := range everyBox {
		if !impl.BoxValid(b) {
			t.Fatalf("%+v is not valid", b)
		}
	}
}

func TestBoxValidAboutEveryBound(t *testing.T) {
	for _, k := range knownBoxes {
		for _, f := range boxFields {
			for value := f.least - 5; value <= f.greatest+5; value++ {
				b := k.box
				f.set(&b, value)
				if got := impl.BoxValid(b); got != (f.least <= value && value <= f.greatest) {
					t.Errorf("BoxValid of %+v, with another %s, is %v", b, f.name, got)
				}
			}
		}
	}
}

func TestBoxValidOfOtherBoxes(t *testing.T) {
	for _, b := range invalidBoxes() {
		if impl.BoxValid(b) {
			t.Errorf("%+v is valid", b)
		}
	}
}

func TestP45BoxesHaveAWeight(t *testing.T) {
	for b := range everyBox {
		empty := b
		empty.Weight = 0
		harmless := impl.Box{Id: b.Id, Weight: b.Weight, Port: b.Port}
		frozen := harmless
		frozen.Cold = true
		if impl.BoxValid(empty) || !impl.BoxValid(harmless) || !impl.BoxValid(frozen) {
			t.Fatalf("of %+v: %v without a weight, %v and %v if harmless", b, impl.BoxValid(empty), impl.BoxValid(harmless), impl.BoxValid(frozen))
		}
	}
}

func TestBoxTextOfKnownBoxes(t *testing.T) {
	for _, k := range knownBoxes {
		if got := impl.BoxText(k.box); got != k.text {
			t.Errorf("BoxText of %+v is %q, not %q", k.box, got, k.text)
		}
	}
}

func TestBoxTextOfOtherBoxes(t *testing.T) {
	for _, b := range invalidBoxes() {
		if got := impl.BoxText(b); got != "" {
			t.Errorf("BoxText of %+v is %q", b, got)
		}
	}
}

func TestP46TextsOfBoxesAreRead(t *testing.T) {
	for b := range everyBox {
		want := fmt.Sprintf("%d:%d/%d/%d", b.Id, b.Weight, b.Class, b.Port)
		if b.Cold {
			want += "c"
		}
		if got := impl.BoxText(b); got != want {
			t.Fatalf("BoxText of %+v is %q", b, got)
		}
		if got, ok := impl.ReadBox(want); got != b || !ok {
			t.Fatalf("ReadBox(%q) is %+v, %v", want, got, ok)
		}
	}
}

func TestReadBoxOfKnownTexts(t *testing.T) {
	for _, k := range knownBoxes {
		if got, ok := impl.ReadBox(k.text); got != k.box || !ok {
			t.Errorf("ReadBox(%q) is %+v, %v", k.text, got, ok)
		}
	}
}

// refusedTexts has texts of no box, by what is wrong with them.
var refusedTexts = map[string][]string{
	"empty": {"", " ", "c", ":", "/", "::", "://", ":///", ":///c", "\x00"},
	"zeros ahead": {
		"017:20/1/3", "0017:20/1/3", "17:020/1/3", "17:20/01/3", "17:20/1/03", "17:20/1/03c", "17:20/00/3", "17:20/1/00", "00:20/1/3",
		"01:1/0/0", "1:01/0/0", strings.Repeat("0", 1000) + "17:20/1/3", "17:20/1/" + strings.Repeat("0", 1000) + "3",
	},
	"signs": {
		"+17:20/1/3", "-17:20/1/3", "17:+20/1/3", "17:-20/1/3", "17:20/+1/3", "17:20/-1/3", "17:20/1/+3", "17:20/1/-3",
		"17:20/-0/3", "17:20/1/-0", "17:20/+0/3", "17:20/1/-0c", "--17:20/1/3", "17-:20/1/3",
	},
	"blanks": {
		" 17:20/1/3", "17 :20/1/3", "17: 20/1/3", "17:20 /1/3", "17:20/ 1/3", "17:20/1 /3", "17:20/1/ 3", "17:20/1/3 ", "17:20/1/3 c", "17:20/1/3c ",
		"1 7:20/1/3", "17:2 0/1/3", "\t17:20/1/3", "17:20/1/3\n", "17:20/1/3c\n", "\n17:20/1/3", "17:20/1/3\r\n", "17:20/1/3\x00", "\u00a017:20/1/3", "\ufeff17:20/1/3",
	},
	"letters": {
		"17:20/1/3C", "17:20/1/3d", "17:20/1/3x", "17:20/1/3cc", "17:20/1/3cx", "17:20/1/3xc", "17:20/1/3c0", "17:20/1/3c3", "c17:20/1/3", "17c:20/1/3",
		"17:20c/1/3", "17:20/1c/3", "17:20/1/c", "17:20/1/c3", "17:20/1/cc", "a:20/1/3", "17:b/1/3", "1e1:20/1/3", "0x17:20/1/3", "1_7:20/1/3", "17.:20/1/3", "17:20.0/1/3",
	},
	"parts missing": {
		"17", "17:", "17:20", "17:20/", "17:20/1", "17:20/1/", "17:20/1c", "17:20c", "17c", ":20/1/3", "20/1/3", "17:/1/3", "17/1/3", "17:20//3", "17:20/3", "17:20/1/c",
		"1720/1/3", "17:201/3", "17:20/13", "/1/3", "1/3", "/3", "3",
	},
	"parts doubled": {
		"17:17:20/1/3", "17::20/1/3", "17:20:20/1/3", "17:20//1/3", "17:20/1//3", "17:20/1/1/3", "17:20/1/3/", "17:20/1/3/3", "17:20/1/3c/", "17:20/1/3/c", "17:20/1/3c/3",
		":17:20/1/3", "/17:20/1/3", "17:/20/1/3", "17/:20/1/3", "17:20/1/3:", "17:20/1/3 17:20/1/3", "17:20/1/317:20/1/3", "17:20/1/3,4:9/0/0", "17:20/1/3\n4:9/0/0",
	},
	"other marks":      {"17/20/1/3", "17:20:1/3", "17:20/1:3", "17:20:1:3", "17;20/1/3", "17:20\\1\\3", "17-20-1-3", "17 20 1 3", "17,20,1,3", "17\uff1a20/1/3", "17:20\u20441\u20443"},
	"below the bounds": {"0:20/1/3", "17:0/1/3", "0:0/0/0", "0:20/1/3c", "17:0/1/3c"},
	"above the bounds": {
		"1000:20/1/3", "9999:20/1/3", "17:31/1/3", "17:99/1/3", "17:100/1/3", "17:300/1/3", "17:20/4/3", "17:20/9/3", "17:20/10/3", "17:20/30/3", "17:20/1/7", "17:20/1/9", "17:20/1/10", "17:20/1/60c", "17:20/1/7c",
	},
	// These are 17, 20, 1 and 3 if what is above 8, 16, 32 or 64 bits is lost.
	"too long": {
		"65553:20/1/3", "4294967313:20/1/3", "18446744073709551633:20/1/3", "36893488147419103249:20/1/3",
		"17:276/1/3", "17:65556/1/3", "17:4294967316/1/3", "17:18446744073709551636/1/3",
		"17:20/257/3", "17:20/4294967297/3", "17:20/18446744073709551617/3", "17:20/18446744073709551616/3",
		"17:20/1/259", "17:20/1/4294967299", "17:20/1/18446744073709551619", "17:20/1/18446744073709551619c", "17:20/1/18446744073709551616",
		"9223372036854775808:20/1/3", "-9223372036854775808:20/1/3", "-18446744073709551599:20/1/3",
		"17" + strings.Repeat("0", 1000) + ":20/1/3", strings.Repeat("9", 100000) + ":20/1/3", "17:20/1/" + strings.Repeat("3", 100000),
	},
	// Digits of other scripts, and letters whose lowest eight bits are those of a digit or a mark.
	"no ASCII": {
		"\u0661\u0667:20/1/3", "\uff11\uff17:20/1/3", "17:\u0662\u0660/1/3", "17:20/\u00b9/3", "17:20/1/\u00b3", "17:20/1/\u0663", "17:20/1/3\u0441", "17:20/1/3\u00e7",
		"\u01317:20/1/3", "1\u0137:20/1/3", "17\u013a20/1/3", "17:2\u0130/1/3", "17:20\u012f1/3", "17:20/\u0131/3", "17:20/1/\u0133", "17:20/1/3\u0163", "\U000100317:20/1/3",
		"\xff17:20/1/3", "17\xff:20/1/3", "17:20/1/3\xff", "17:20/1/3c\xff", "17:20/1/3\xffc", "17:20/\x80/3", "17:20/1/\xb3", "\xb17:20/1/3", "1\xb7:20/1/3", "\xe9:20/1/3", "\xff\xfe", "\xc0\xb1:20/1/3",
	},
}

func TestReadBoxOfOtherTexts(t *testing.T) {
	for reason, list := range refusedTexts {
		for _, s := range list {
			if got, ok := impl.ReadBox(s); ok || got != (impl.Box{}) {
				t.Errorf("ReadBox(%.40q) (%s) is %+v, %v", s, reason, got, ok)
			}
		}
	}
}

func TestReadBoxOfBeginnings(t *testing.T) {
	for _, k := range knownBoxes {
		for n := range len(k.text) {
			// The text of a box that is not cold begins that of a cold one, and that with the id 17 ends with that with the id 7.
			checkReading(t, k.text[:n])
			checkReading(t, k.text[n+1:])
			checkReading(t, k.text[:n]+k.text[n+1:])
		}
	}
}

var textOfABox = regexp.MustCompile(`^([1-9][0-9]?[0-9]?):([1-9]|[12][0-9]|30)/([0-3])/([0-6])(c?)$`)

// boxInText is ReadBox, told by a regular expression.
func boxInText(s string) (impl.Box, bool) {
	m := textOfABox.FindStringSubmatch(s)
	if m == nil {
		return impl.Box{}, false
	}
	var values [4]int
	for i := range values {
		values[i], _ = strconv.Atoi(m[i+1])
	}
	return impl.Box{Id: values[0], Weight: values[1], Class: values[2], Port: values[3], Cold: m[5] != ""}, true
}

// checkReading reports whether a text is that of a box.
func checkReading(t *testing.T, s string) bool {
	t.Helper()
	want, wantOk := boxInText(s)
	got, ok := impl.ReadBox(s)
	if got != want || ok != wantOk {
		t.Fatalf("ReadBox(%q) is %+v, %v", s, got, ok)
	}
	if ok && impl.BoxText(got) != s {
		t.Fatalf("ReadBox(%q) is %+v, with the text %q", s, got, impl.BoxText(got))
	}
	if other, ok := impl.ReadBox(s + "/"); ok || other != (impl.Box{}) {
		t.Fatalf("ReadBox(%q) is %+v, %v", s+"/", other, ok)
	}
	return ok
}

func TestP47ReadTextsAreCanonical(t *testing.T) {
	many := 0
	for _, k := range knownBoxes {
		checkReading(t, k.text)
		for place := range len(k.text) + 1 {
			for c := range 256 {
				letter := string([]byte{byte(c)})
				if checkReading(t, k.text[:place]+letter+k.text[place:]) {
					many++
				}
				if place < len(k.text) && checkReading(t, k.text[:place]+letter+k.text[place+1:]) {
					many++
				}
			}
		}
	}
	if many < 200 {
		t.Errorf("only %d changed texts were read", many)
	}
}

// Every text of at most eight of these letters; those of boxes have seven or eight.
func TestP47OfEveryShortText(t *testing.T) {
	letters := "01:/c"
	many := 0
	list := []string{""}
	for length := range 9 {
		var longer []string
		for _, s := range list {
			if checkReading(t, s) {
				many++
			}
			for i := range len(letters) {
				if length < 8 {
					longer = append(longer, s+letters[i:i+1])
				}
			}
		}
		list = longer
	}
	// Four have seven bytes; the others have one digit more in the id or in the weight, or a c.
	if want := 4 + 4*2 + 4*2 + 4; many != want {
		t.Errorf("%d short texts were read, not %d", many, want)
	}
}

func TestBoxesValidOfEveryLength(t *testing.T) {
	for _, list := range validLists() {
		if !impl.BoxesValid(list) {
			t.Errorf("%d boxes are not valid: %+v", len(list), list)
		}
	}
	for many := range 30 {
		if got := impl.BoxesValid(numberedBoxes(many)); got != (many <= 10) {
			t.Errorf("BoxesValid of %d boxes is %v", many, got)
		}
	}
}

func TestBoxesValidOfEqualIds(t *testing.T) {
	for n := 2; n <= 10; n++ {
		for i := range n {
			for j := range n {
				list := manyBoxes()[:n]
				list[i].Id = list[j].Id
				if got := impl.BoxesValid(list); got != (i == j) {
					t.Errorf("with the id %d of box %d at box %d, BoxesValid of %d boxes is %v", list[j].Id, j, i, n, got)
				}
			}
		}
	}
}

// Boxes may be equal in all but their ids.
func TestBoxesValidOfLikeBoxes(t *testing.T) {
	like := []impl.Box{}
	for id := 990; id <= 999; id++ {
		like = append(like, impl.Box{Id: id, Weight: 30, Class: 3, Port: 6, Cold: true})
	}
	if !impl.BoxesValid(like) {
		t.Errorf("%+v are not valid", like)
	}
}

func TestBoxesValidOfOtherBoxes(t *testing.T) {
	for _, list := range invalidLists() {
		if impl.BoxesValid(list) {
			t.Errorf("%+v are valid", list)
		}
	}
	for _, b := range invalidBoxes() {
		for i := range 10 {
			list := manyBoxes()
			list[i] = b
			if impl.BoxesValid(list) || impl.BoxesValid(list[i:i+1]) {
				t.Errorf("%+v are valid", list)
			}
		}
	}
}

func TestP48BoxesStayValidWhenOneIsMissing(t *testing.T) {
	for _, list := range validLists() {
		if len(list) == 0 {
			continue
		}
		if !impl.BoxesValid(list[1:]) {
			t.Errorf("%+v are not valid without the first one", list)
		}
		for place := range len(list) + 1 {
			if twice := slices.Insert(slices.Clone(list), place, list[0]); impl.BoxesValid(twice) {
				t.Errorf("%+v are valid", twice)
			}
		}
	}
}

func TestP49EveryBoxIsFoundByItsId(t *testing.T) {
	for _, list := range validLists() {
		index := map[int]int{}
		for i, b := range list {
			index[b.Id] = i
		}
		for id := -1001; id <= 1001; id++ {
			want, ok := index[id]
			if !ok {
				want = -1
			}
			if got := impl.FindBox(list, id); got != want {
				t.Errorf("FindBox of the id %d is %d, not %d, among %+v", id, got, want, list)
			}
		}
	}
}

func TestFindBoxOfOtherIds(t *testing.T) {
	for _, list := range validLists() {
		for _, id := range []int{0, -1, -500, 3, 501, 1000, 500 + 1<<32, 999 - 1<<32, math.MinInt, math.MaxInt} {
			if got := impl.FindBox(list, id); got != -1 {
				t.Errorf("FindBox of the id %d is %d, not -1", id, got)
			}
		}
	}
}

func TestFindBoxOfOtherBoxes(t *testing.T) {
	for _, list := range invalidLists() {
		for _, b := range append(list, impl.Box{}, impl.Box{Id: 3}, impl.Box{Id: -1}) {
			if got := impl.FindBox(list, b.Id); got != -1 {
				t.Errorf("FindBox of the id %d is %d, not -1, among %+v", b.Id, got, list)
			}
		}
	}
}

func TestWeightOfKnownBoxes(t *testing.T) {
	all := []int{500, 999, 1, 2, 998, 17, 4, 40, 400, 50}
	for _, k := range []struct {
		ids []int
		sum int
	}{
		{nil, 0},
		{[]int{}, 0},
		{[]int{500}, 7},
		{[]int{999}, 30},
		{[]int{50}, 28},
		{[]int{1, 1}, 2},
		{[]int{4, 17, 4}, 38},
		{[]int{17, 4, 4}, 38},
		{[]int{1, 2}, 2},
		{[]int{999, 998, 999, 998, 999}, 150},
		{all, 148},
		{slices.Concat(all, all, all), 444},
		{slices.Repeat([]int{999}, 100000), 3000000},
	} {
		if got := impl.WeightOf(manyBoxes(), k.ids); got != k.sum {
			t.Errorf("WeightOf %.30v is %d, not %d", k.ids, got, k.sum)
		}
	}
	if got := impl.WeightOf(nil, nil); got != 0 {
		t.Errorf("WeightOf no boxes is %d, not 0", got)
	}
}

func TestP50WeightsAddUp(t *testing.T) {
	for _, list := range validLists() {
		var ids []int
		sums := []int{0}
		for step := range 3 * len(list) {
			// A step of 7 comes to all indices of most lengths, and more than once.
			b := list[step*7%len(list)]
			ids = append(ids, b.Id)
			sums = append(sums, sums[step]+b.Weight)
		}
		for end := range len(ids) + 1 {
			for cut := range end + 1 {
				whole, first, others := impl.WeightOf(list, ids[:end]), impl.WeightOf(list, ids[:cut]), impl.WeightOf(list, ids[cut:end])
				if whole != first+others || whole != sums[end] || first != sums[cut] {
					t.Fatalf("WeightOf %v is %d; of its first %d it is %d, and %d of the others", ids[:end], whole, cut, first, others)
				}
			}
		}
	}
}

func TestWeightOfOtherIds(t *testing.T) {
	for _, list := range validLists() {
		ids := []int{}
		for _, b := range list {
			ids = append(ids, b.Id, b.Id)
		}
		for _, id := range []int{0, -1, -500, 3, 501, 1000, 500 + 1<<32, math.MinInt, math.MaxInt} {
			for place := range len(ids) + 1 {
				if got := impl.WeightOf(list, slices.Insert(slices.Clone(ids), place, id)); got != -1 {
					t.Errorf("WeightOf with the id %d at %d is %d, not -1", id, place, got)
				}
			}
		}
	}
	// The ids of all boxes that are behind the end of the list.
	for n := range 10 {
		if got := impl.WeightOf(manyBoxes()[:n], []int{manyBoxes()[n].Id}); got != -1 {
			t.Errorf("WeightOf box %d among %d boxes is %d, not -1", n, n, got)
		}
	}
}

func TestWeightOfOtherBoxes(t *testing.T) {
	for _, list := range invalidLists() {
		for _, ids := range [][]int{nil, {}, {500}, {list[0].Id}, {list[0].Id, list[0].Id}, {3}, {0}} {
			if got := impl.WeightOf(list, ids); got != -1 {
				t.Errorf("WeightOf %v is %d, not -1, among %+v", ids, got, list)
			}
		}
	}
}

func TestBoxesAreNotChanged(t *testing.T) {
	ids := []int{17, 4, 500, 17, 3, 999}
	for _, list := range append(validLists(), invalidLists()...) {
		// Beyond the end there is room, which is not to be written to either.
		whole, wholeIds := append(slices.Clone(list), manyBoxes()...), slices.Clone(ids)
		for n := range len(ids) + 1 {
			impl.BoxesValid(whole[:len(list)])
			impl.FindBox(whole[:len(list)], ids[n%len(ids)])
			impl.WeightOf(whole[:len(list)], wholeIds[:n])
		}
		if !slices.Equal(whole, append(slices.Clone(list), manyBoxes()...)) || !slices.Equal(wholeIds, ids) {
			t.Fatalf("%+v, %v were changed to %+v, %v", list, ids, whole, wholeIds)
		}
	}
}

func TestBoxesKeepNothingFromCallToCall(t *testing.T) {
	list := manyBoxes()
	for i := range list {
		before := impl.FindBox(list, 123)
		id := list[i].Id
		list[i].Id = 123
		if before != -1 || impl.FindBox(list, 123) != i || impl.FindBox(list, id) != -1 || impl.WeightOf(list, []int{123}) != list[i].Weight {
			t.Errorf("box %d is not found by its new id", i)
		}
		list[i].Id = id
	}
}
