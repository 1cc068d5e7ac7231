package impl

import (
	"strconv"
	"strings"
)

const (
	checkModulus = 11
	kindLetters  = "UJZ"
	ownerLength  = 3
	// checkedLength counts the bytes ahead of the check digit.
	checkedLength  = 10
	greatestSerial = 999999
)

// CharValue returns the value of a text of one byte: that of a digit is the digit; the values of the letters A to Z ascend from 10 on and leave out the multiples of 11; -1 for other texts.
func CharValue(s string) int {
	if len(s) != 1 {
		return -1
	}
	switch c := s[0]; {
	case isDigit(c):
		return int(c - '0')
	case isCapital(c):
		return capitalValue(c)
	}
	return -1
}

// CheckRest returns the sum, over the first ten bytes of a number, of CharValue times 2 to the power of the place, from 0 on, modulo 11; -1 for texts that are not exactly these ten bytes: three capital letters, a U, J or Z, and six digits.
func CheckRest(s string) int {
	if !canBeChecked(s) {
		return -1
	}
	sum, power := 0, 1
	for i := range len(s) {
		sum += CharValue(s[i:i+1]) * power
		power = power * 2 % checkModulus
	}
	return sum % checkModulus
}

// NumberValid reports whether a text is a number: its first ten bytes have a CheckRest, and its last one, the eleventh, is the digit of this, or 0 if it is 10.
func NumberValid(s string) bool {
	if len(s) != checkedLength+1 {
		return false
	}
	rest := CheckRest(s[:checkedLength])
	return rest >= 0 && s[checkedLength:] == checkDigit(rest)
}

// NumberOf returns the number of the container of an owner of three capital letters, of the kind 0 (U), 1 (J) or 2 (Z), with a serial in 0..999999; "" for other arguments.
func NumberOf(owner string, kind int, serial int) string {
	if len(owner) != ownerLength || kind < 0 || kind >= len(kindLetters) || serial < 0 || serial > greatestSerial {
		return ""
	}
	text := owner + kindLetters[kind:kind+1] + serialDigits(serial)
	rest := CheckRest(text)
	if rest < 0 {
		return ""
	}
	return text + checkDigit(rest)
}

// SerialOf returns the serial of a number (NumberValid), which its six digits tell; -1 for other texts.
func SerialOf(s string) int {
	if !NumberValid(s) {
		return -1
	}
	serial := 0
	for _, c := range []byte(s[ownerLength+1 : checkedLength]) {
		serial = serial*10 + int(c-'0')
	}
	return serial
}

func isDigit(c byte) bool {
	return '0' <= c && c <= '9'
}

func isCapital(c byte) bool {
	return 'A' <= c && c <= 'Z'
}

// capitalValue skips the multiples of 11, as a letter with such a value would add nothing to the rest.
func capitalValue(letter byte) int {
	value := 10
	for c := byte('A'); c < letter; c++ {
		value++
		if value%checkModulus == 0 {
			value++
		}
	}
	return value
}

// canBeChecked reports whether a text has the form of the ten bytes ahead of a check digit.
func canBeChecked(s string) bool {
	if len(s) != checkedLength {
		return false
	}
	for i := range len(s) {
		if !fitsPlace(s[i], i) {
			return false
		}
	}
	return true
}

func fitsPlace(c byte, place int) bool {
	switch {
	case place < ownerLength:
		return isCapital(c)
	case place == ownerLength:
		return strings.IndexByte(kindLetters, c) >= 0
	}
	return isDigit(c)
}

// checkDigit has one digit for eleven rests: 10 shares that of 0.
func checkDigit(rest int) string {
	return strconv.Itoa(rest % 10)
}

// serialDigits adds a million and cuts it off, so that the zeros ahead stay.
func serialDigits(serial int) string {
	return strconv.Itoa(greatestSerial + 1 + serial)[1:]
}
