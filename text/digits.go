package text

import "strings"

const (
	// digits are in the order of their values.
	digits = "0123456789abcdef"
	// digitBits is how many bits a digit has.
	digitBits = 4
	// noBytes stands for the digits of no bytes.
	noBytes = "-"
)

// digitsOf are the digits of bytes.
func digitsOf(b []byte) string {
	if len(b) == 0 {
		return noBytes
	}
	var text []byte
	for _, x := range b {
		text = append(text, digits[x>>digitBits], digits[x&(1<<digitBits-1)])
	}
	return string(text)
}

// bytesOf are the bytes of digits; it throws what are none.
func bytesOf(text string) []byte {
	if text == noBytes {
		return nil
	}
	need(len(text) > 0 && len(text)%2 == 0)
	var b []byte
	for i := 0; i < len(text); i += 2 {
		b = append(b, valueOf(text[i])<<digitBits|valueOf(text[i+1]))
	}
	return b
}

// valueOf is a digit's value; it throws what is none.
func valueOf(digit byte) byte {
	value := strings.IndexByte(digits, digit)
	need(value >= 0)
	return byte(value)
}
