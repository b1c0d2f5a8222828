package exact

import "recast/api"

const (
	pieceDigits = 9
	pieceBase   = 1_000_000_000

	// A binary digit is just below 0.30103 decimal ones: a value of more than maxDigits digits is large.
	maxDigits = api.MaxBits*30103/100000 + 1
	maxPieces = (maxDigits + pieceDigits - 1) / pieceDigits
)

// decimal is pieces of pieceDigits decimal digits, the lowest first: room for every value that is not large.
type decimal [maxPieces]uint32

// numeral is whether s is `0`, or a digit 1 to 9 and digits.
func numeral(s string) bool {
	if s == "" || s[0] == '0' && s != "0" {
		return false
	}
	for i := range len(s) {
		if s[i] < '0' || s[i] > '9' {
			return false
		}
	}
	return true
}

// read is the pieces of at most maxDigits digits.
func read(digits string) (pieces decimal) {
	for i := range len(digits) {
		at := (len(digits) - 1 - i) / pieceDigits
		pieces[at] = pieces[at]*10 + uint32(digits[i]-'0')
	}
	return pieces
}

// words is the words of the pieces.
func (pieces decimal) words() (mag []uint32) {
	for i := len(pieces) - 1; i >= 0; i-- {
		grown := make([]uint32, len(mag)+1)
		grown[0] = pieces[i]
		addTimes(grown, mag, pieceBase)
		mag = trimmed(grown)
	}
	return mag
}

// digits is all digits of the pieces, noughts ahead too.
func (pieces decimal) digits() string {
	var text [maxPieces * pieceDigits]byte
	at := len(text)
	for _, piece := range pieces {
		for range pieceDigits {
			at--
			text[at] = '0' + byte(piece%10)
			piece /= 10
		}
	}
	return string(text[:])
}
