package impl

import (
	"strconv"
	"strings"
)

// DevArg is an operand: a device, a whole number, a decimal number or a word for one.
type DevArg struct {
	Kind int
	N    int
	P    int
}

// Kinds of operands.
const (
	DevX = iota + 1
	DevY
	DevM
	DevS
	DevE
	DevG
	DevT
	DevC
	DevD
	DevR
	DevInt
	DevDec
	DevWord
)

// Bounds of operands.
const (
	DevMaxInt = 32767
	DevMaxDec = 999999999
	DevMaxP   = 6
)

// devKind is what holds for all operands of a kind; letter and size are of devices alone.
type devKind struct {
	letter string
	size   int
	bit    bool
	whole  bool
	real   bool
}

var devKinds = [DevWord + 1]devKind{
	DevX:    {letter: "X", size: 32, bit: true},
	DevY:    {letter: "Y", size: 32, bit: true},
	DevM:    {letter: "M", size: 64, bit: true},
	DevS:    {letter: "S", size: 16, bit: true},
	DevE:    {letter: "E", size: 32},
	DevG:    {letter: "G", size: 5, bit: true},
	DevT:    {letter: "T", size: 16, bit: true, whole: true},
	DevC:    {letter: "C", size: 16, bit: true, whole: true},
	DevD:    {letter: "D", size: 32, whole: true},
	DevR:    {letter: "R", size: 16, real: true},
	DevInt:  {whole: true},
	DevDec:  {real: true},
	DevWord: {real: true},
}

var devWords = [4]string{"nan", "inf", "-inf", "-0.0"}

// devKindOf answers at any number, so that no caller has to guard the table.
func devKindOf(kind int) devKind {
	if kind < DevX || kind > DevWord {
		return devKind{}
	}
	return devKinds[kind]
}

// DevSize is how many devices of a kind there are.
func DevSize(kind int) int { return devKindOf(kind).size }

// DevLetter is the letter of a kind of device.
func DevLetter(kind int) string { return devKindOf(kind).letter }

// DevOk says whether an operand is one.
func DevOk(a DevArg) bool {
	switch a.Kind {
	case DevInt:
		return a.P == 0 && a.N >= -DevMaxInt-1 && a.N <= DevMaxInt
	case DevDec:
		return devDecOk(a.N, a.P)
	case DevWord:
		return a.P == 0 && a.N >= 0 && a.N < len(devWords)
	}
	return a.P == 0 && a.N >= 0 && a.N < DevSize(a.Kind)
}

// devDecOk bars a 0 at the end, which would give one number two texts; with one digit behind the point it has to stand.
func devDecOk(n, p int) bool {
	if n < -DevMaxDec || n > DevMaxDec || p < 1 || p > DevMaxP {
		return false
	}
	return p == 1 || n%10 != 0
}

// DevIsBit says whether an operand may be asked for a bit.
func DevIsBit(a DevArg) bool { return DevOk(a) && devKindOf(a.Kind).bit }

// DevIsWhole says whether an operand may be asked for a whole number.
func DevIsWhole(a DevArg) bool { return DevOk(a) && devKindOf(a.Kind).whole }

// DevIsReal says whether an operand may be asked for a real number.
func DevIsReal(a DevArg) bool { return DevOk(a) && devKindOf(a.Kind).real }

// DevText writes an operand.
func DevText(a DevArg) string {
	if !DevOk(a) {
		return ""
	}
	switch a.Kind {
	case DevInt:
		return strconv.Itoa(a.N)
	case DevDec:
		return devDecText(a.N, a.P)
	case DevWord:
		return devWords[a.N]
	}
	return DevLetter(a.Kind) + strconv.Itoa(a.N)
}

func devDecText(n, p int) string {
	sign := ""
	if n < 0 {
		sign, n = "-", -n
	}
	digits := strconv.Itoa(n)
	if len(digits) <= p {
		digits = strings.Repeat("0", p+1-len(digits)) + digits
	}
	point := len(digits) - p
	return sign + digits[:point] + "." + digits[point:]
}

// DevRead reads an operand.
func DevRead(text string) (DevArg, bool) {
	a := devScan(text)
	// Writing it again bars every other spelling of a number (X01, -0, 0.50, .5) in one place.
	if !DevOk(a) || DevText(a) != text {
		return DevArg{}, false
	}
	return a, true
}

// devScan is the one operand that could have this text; it need not be ok, nor be written so.
func devScan(text string) DevArg {
	for n, word := range devWords {
		if word == text {
			return DevArg{Kind: DevWord, N: n}
		}
	}
	a := DevArg{Kind: DevInt}
	sign := 1
runes:
	for i, r := range text {
		if i == 0 {
			for kind := DevX; kind <= DevR; kind++ {
				if DevLetter(kind) == string(r) {
					a.Kind = kind
					continue runes
				}
			}
		}
		switch {
		case i == 0 && r == '-':
			sign = -1
		case r == '.' && a.Kind == DevInt:
			a.Kind = DevDec
		case r < '0' || r > '9' || a.N > DevMaxDec/10: // one more digit would be beyond every operand
			return DevArg{}
		default:
			a.N = a.N*10 + int(r-'0')
			if a.Kind == DevDec {
				a.P++
			}
		}
	}
	a.N *= sign
	return a
}
