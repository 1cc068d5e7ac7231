package tests

import (
	"math"
	"strings"
	"testing"

	"loop.example/containerport/impl"
)

const (
	capitals = "ABCDEFGHIJKLMNOPQRSTUVWXYZ"
	digits   = "0123456789"
)

// Written out by hand, so that a slip in the rule of the values shows.
var letterValues = [26]int{
	10, 12, 13, 14, 15, 16, 17, 18, 19, 20, 21,
	23, 24, 25, 26, 27, 28, 29, 30, 31, 32,
	34, 35, 36, 37, 38,
}

// knownNumbers has each rest and each of the three kinds, the first and the last serial, and serials with zeros ahead.
var knownNumbers = []struct {
	owner  string
	kind   int
	serial int
	first  string
	rest   int
	number string
}{
	{"CSQ", 0, 305438, "CSQU305438", 3, "CSQU3054383"},
	{"TEX", 0, 307007, "TEXU307007", 9, "TEXU3070079"},
	{"HLX", 0, 200841, "HLXU200841", 9, "HLXU2008419"},
	{"AAA", 0, 0, "AAAU000000", 7, "AAAU0000007"},
	{"ZZZ", 0, 999999, "ZZZU999999", 2, "ZZZU9999992"},
	{"ZZZ", 2, 999999, "ZZZZ999999", 6, "ZZZZ9999996"},
	{"ABC", 1, 7, "ABCJ000007", 2, "ABCJ0000072"},
	{"KLU", 2, 120, "KLUZ000120", 6, "KLUZ0001206"},
	{"VKL", 1, 120000, "VKLJ120000", 1, "VKLJ1200001"},
	{"BKV", 0, 49388, "BKVU049388", 0, "BKVU0493880"},
	{"BKV", 0, 185205, "BKVU185205", 4, "BKVU1852054"},
	{"BKV", 1, 321022, "BKVJ321022", 5, "BKVJ3210225"},
	{"BKV", 2, 209899, "BKVZ209899", 7, "BKVZ2098997"},
	{"BKV", 2, 185205, "BKVZ185205", 8, "BKVZ1852058"},
	{"BKV", 0, 12347, "BKVU012347", 10, "BKVU0123470"},
	{"BKV", 1, 37041, "BKVJ037041", 10, "BKVJ0370410"},
	{"BKV", 2, 0, "BKVZ000000", 10, "BKVZ0000000"},
}

// allowedAt has the bytes that a number may have at each of its first ten places.
func allowedAt(place int) string {
	switch {
	case place < 3:
		return capitals
	case place == 3:
		return "UJZ"
	}
	return digits
}

func withByte(s string, place int, c byte) string {
	return s[:place] + string([]byte{c}) + s[place+1:]
}

func exchanged(s string, place int) string {
	return s[:place] + s[place+1:place+2] + s[place:place+1] + s[place+2:]
}

// brokenTexts has texts that are no longer what s is: shorter ones, longer ones, and ones with a byte that may not be there.
func brokenTexts(s string) []string {
	list := []string{"", s + "0", s + "A", s + "\n", "A" + s, "0" + s, " " + s, s + s, strings.ToLower(s), "é" + s[2:]}
	for n := range len(s) {
		list = append(list, s[:n], s[n+1:])
	}
	for place := range min(len(s), 10) {
		for c := range 256 {
			if strings.IndexByte(allowedAt(place), byte(c)) < 0 {
				list = append(list, withByte(s, place, byte(c)))
			}
		}
	}
	return list
}

func TestCharValueOfEveryByte(t *testing.T) {
	for c := range 256 {
		want := -1
		if i := strings.IndexByte(digits, byte(c)); i >= 0 {
			want = i
		}
		if i := strings.IndexByte(capitals, byte(c)); i >= 0 {
			want = letterValues[i]
		}
		if got := impl.CharValue(string([]byte{byte(c)})); got != want {
			t.Errorf("CharValue of byte %d is %d, not %d", c, got, want)
		}
	}
}

func TestCharValueOfOtherTexts(t *testing.T) {
	for _, s := range []string{"", "AB", "A1", "12", "00", "A ", " A", "A\x00", "é", "Ä", "Ａ", "٣", "\xff\xfe", strings.Repeat("A", 1000)} {
		if got := impl.CharValue(s); got != -1 {
			t.Errorf("CharValue(%q) is %d, not -1", s, got)
		}
	}
}

func TestP41ValuesDiffer(t *testing.T) {
	seen := map[int]string{}
	for _, c := range digits + capitals {
		s := string(c)
		value := impl.CharValue(s)
		if value < 0 || value > 38 {
			t.Errorf("CharValue(%q) is %d", s, value)
		}
		if other, ok := seen[value]; ok {
			t.Errorf("%q and %q both have the value %d", other, s, value)
		}
		seen[value] = s
	}
	last := 9
	for _, c := range capitals {
		value := impl.CharValue(string(c))
		if value%11 == 0 {
			t.Errorf("the value %d of %q is a multiple of 11", value, c)
		}
		if value <= last {
			t.Errorf("the value %d of %q does not ascend", value, c)
		}
		last = value
	}
}

func TestCheckRestOfKnownNumbers(t *testing.T) {
	rests := map[int]bool{}
	for _, k := range knownNumbers {
		if got := impl.CheckRest(k.first); got != k.rest {
			t.Errorf("CheckRest(%q) is %d, not %d", k.first, got, k.rest)
		}
		rests[k.rest] = true
	}
	if len(rests) != 11 {
		t.Errorf("the known numbers have only %d of 11 rests", len(rests))
	}
}

// Every allowed byte at every place, with the powers written out.
func TestCheckRestOfEveryByteAtEveryPlace(t *testing.T) {
	powers := [10]int{1, 2, 4, 8, 16, 32, 64, 128, 256, 512}
	for _, base := range []string{"CSQU305438", "ZZZZ999999", "AAAJ000000"} {
		for place := range 10 {
			for _, c := range []byte(allowedAt(place)) {
				s := withByte(base, place, c)
				sum := 0
				for i := range 10 {
					value := strings.IndexByte(digits, s[i])
					if value < 0 {
						value = letterValues[s[i]-'A']
					}
					sum += value * powers[i]
				}
				if got := impl.CheckRest(s); got != sum%11 {
					t.Errorf("CheckRest(%q) is %d, not %d", s, got, sum%11)
				}
			}
		}
	}
}

func TestCheckRestOfOtherTexts(t *testing.T) {
	for _, k := range knownNumbers {
		for _, s := range append(brokenTexts(k.first), k.number) {
			if got := impl.CheckRest(s); got != -1 {
				t.Errorf("CheckRest(%q) is %d, not -1", s, got)
			}
		}
	}
}

func TestP1MistakesAreNoticed(t *testing.T) {
	for _, k := range knownNumbers {
		rest := impl.CheckRest(k.first)
		for place := 4; place < 10; place++ {
			for _, c := range []byte(digits) {
				s := withByte(k.first, place, c)
				if other := impl.CheckRest(s); (other == rest) != (s == k.first) || other < 0 {
					t.Errorf("CheckRest(%q) is %d, and %d for %q", s, other, rest, k.first)
				}
			}
		}
	}
}

func TestP1ExchangesAreNoticed(t *testing.T) {
	for _, k := range knownNumbers {
		for place := 4; place < 9; place++ {
			for pair := range 100 {
				s := withByte(k.first, place, digits[pair/10])
				s = withByte(s, place+1, digits[pair%10])
				other := exchanged(s, place)
				if (impl.CheckRest(other) == impl.CheckRest(s)) != (other == s) {
					t.Errorf("CheckRest is %d for %q and for %q", impl.CheckRest(s), s, other)
				}
			}
		}
	}
}

func TestNumberValidOfKnownNumbers(t *testing.T) {
	for _, k := range knownNumbers {
		if !impl.NumberValid(k.number) {
			t.Errorf("%q is not valid", k.number)
		}
	}
}

func TestNumberValidOfOtherTexts(t *testing.T) {
	for _, k := range knownNumbers {
		for _, s := range append(brokenTexts(k.number), k.first, k.first+"10", k.first+" "+k.number[10:]) {
			if impl.NumberValid(s) {
				t.Errorf("%q is valid", s)
			}
		}
	}
}

// No byte but the check digit may be the last one, not even the one behind 9 for a rest of 10.
func TestP42NumbersHaveOneCheckDigit(t *testing.T) {
	for _, k := range knownNumbers {
		for c := range 256 {
			s := k.first + string([]byte{byte(c)})
			if got := impl.NumberValid(s); got != (s == k.number) {
				t.Errorf("NumberValid(%q) is %v", s, got)
			}
		}
		if impl.NumberValid(k.first) {
			t.Errorf("%q is valid without its last byte", k.first)
		}
	}
}

func TestP42OfManySerials(t *testing.T) {
	for serial := 0; serial <= 999999; serial += 1009 {
		number := impl.NumberOf("QJV", serial%3, serial)
		if len(number) != 11 {
			t.Fatalf("NumberOf for %d is %q", serial, number)
		}
		many := 0
		for _, c := range []byte(digits) {
			if impl.NumberValid(withByte(number, 10, c)) {
				many++
			}
		}
		if many != 1 || impl.NumberValid(number[:10]) {
			t.Errorf("%d digits make %q a number", many, number[:10])
		}
	}
}

func TestNumberOfKnownNumbers(t *testing.T) {
	for _, k := range knownNumbers {
		if got := impl.NumberOf(k.owner, k.kind, k.serial); got != k.number {
			t.Errorf("NumberOf(%q, %d, %d) is %q, not %q", k.owner, k.kind, k.serial, got, k.number)
		}
	}
}

func TestNumberOfOtherOwners(t *testing.T) {
	owners := []string{"", "C", "CS", "CSQU", "CSQU305438", "csq", "Csq", "CsQ", "CSq", "CS1", "1SQ", "C5Q", "123", "CS ", " CS", "CS\x00", "Éa", "ÉA", "É", "AÉ", "\xff\xfe\xfd", "ＣＳＱ", "Ｃ", "[SQ", "C@Q", "CS["}
	for place := range 3 {
		for c := range 256 {
			if strings.IndexByte(capitals, byte(c)) < 0 {
				owners = append(owners, withByte("CSQ", place, byte(c)))
			}
		}
	}
	for _, owner := range owners {
		for kind := range 3 {
			if got := impl.NumberOf(owner, kind, 305438); got != "" {
				t.Errorf("NumberOf(%q, %d, 305438) is %q", owner, kind, got)
			}
		}
	}
}

// Owners that would make ten bytes together with a serial of fewer or more digits.
func TestNumberOfOwnersOfOtherLengths(t *testing.T) {
	for n := range 12 {
		owner := strings.Repeat("U", n)
		for _, serial := range []int{0, 1, 12, 123, 1234, 12345, 123456, 999999} {
			got := impl.NumberOf(owner, 0, serial)
			if (got != "") != (n == 3) {
				t.Errorf("NumberOf(%q, 0, %d) is %q", owner, serial, got)
			}
		}
	}
}

func TestNumberOfOtherKinds(t *testing.T) {
	for _, kind := range []int{-1, -2, 3, 4, 'U', 256, 1 << 32, -1 << 32, math.MinInt, math.MaxInt} {
		if got := impl.NumberOf("CSQ", kind, 305438); got != "" {
			t.Errorf("NumberOf of the kind %d is %q", kind, got)
		}
	}
}

func TestNumberOfOtherSerials(t *testing.T) {
	for _, serial := range []int{-1, -305438, -999999, -1000000, 1000000, 1305438, 9999999, 1 << 32, math.MinInt, math.MaxInt, math.MaxInt - 999999} {
		for kind := range 3 {
			if got := impl.NumberOf("CSQ", kind, serial); got != "" {
				t.Errorf("NumberOf of the serial %d is %q", serial, got)
			}
		}
	}
}

func checkParts(t *testing.T, owner string, kind int, serial int) {
	number := impl.NumberOf(owner, kind, serial)
	if !impl.NumberValid(number) || number[:3] != owner || number[3] != "UJZ"[kind] || impl.SerialOf(number) != serial {
		t.Fatalf("NumberOf(%q, %d, %d) is %q, with the serial %d", owner, kind, serial, number, impl.SerialOf(number))
	}
}

func TestP43NumbersHaveTheirParts(t *testing.T) {
	for serial := range 1000000 {
		checkParts(t, "CSQ", serial%3, serial)
	}
}

func TestP43OfManyOwners(t *testing.T) {
	for i := range 26 * 26 * 26 {
		owner := string([]byte{capitals[i/676], capitals[i/26%26], capitals[i%26]})
		for kind := range 3 {
			for _, serial := range []int{0, 9, 10, 100000, 999999} {
				checkParts(t, owner, kind, serial)
			}
		}
	}
}

func TestP44SerialsMakeNumbers(t *testing.T) {
	for _, k := range knownNumbers {
		serial := impl.SerialOf(k.number)
		if serial != k.serial {
			t.Errorf("SerialOf(%q) is %d, not %d", k.number, serial, k.serial)
		}
		kind := strings.Index("UJZ", k.number[3:4])
		if got := impl.NumberOf(k.number[:3], kind, serial); got != k.number {
			t.Errorf("NumberOf of the parts of %q is %q", k.number, got)
		}
	}
}

func TestSerialOfOtherTexts(t *testing.T) {
	for _, k := range knownNumbers {
		for _, s := range append(brokenTexts(k.number), k.first) {
			if got := impl.SerialOf(s); got != -1 {
				t.Errorf("SerialOf(%q) is %d, not -1", s, got)
			}
		}
		for c := range 256 {
			s := withByte(k.number, 10, byte(c))
			if got := impl.SerialOf(s); s != k.number && got != -1 {
				t.Errorf("SerialOf(%q) is %d, not -1", s, got)
			}
		}
	}
}
