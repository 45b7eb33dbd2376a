package bits

// char is a character of a text while its bytes come in.
type char struct {
	left   int // how many bytes are still to come
	number int // the bits that came
	least  int // the lowest number of that many bytes: one below it has a shorter form
}

// The numbers that no character has.
const (
	firstHalf  = 55296 // the halves of UTF-16's pairs, from here
	lastHalf   = 57343 // to here
	lastNumber = 1114111
)

// begin takes a character's first byte; it is false of one that begins none.
func begin(b byte) (char, bool) {
	switch {
	case b < 128:
		return char{}, true
	case b>>5 == 0b110:
		return char{left: 1, number: int(b & 0b11111), least: 128}, true
	case b>>4 == 0b1110:
		return char{left: 2, number: int(b & 0b1111), least: 2048}, true
	case b>>3 == 0b11110:
		return char{left: 3, number: int(b & 0b111), least: 65536}, true
	}
	return char{}, false
}

// next takes one more of its bytes; it is false of one that can't stand there, and of a last one that makes it no character.
func (c char) next(b byte) (char, bool) {
	if b>>6 != 0b10 {
		return char{}, false
	}
	c.number = c.number<<6 | int(b&0b111111)
	c.left--
	return c, c.left > 0 || c.fits()
}

// fits tells whether a character of that many bytes may have the number.
func (c char) fits() bool {
	half := c.number >= firstHalf && c.number <= lastHalf
	return c.number >= c.least && c.number <= lastNumber && !half
}
