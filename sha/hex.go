package sha

import "lantern/api"

const digits = "0123456789abcdef"

// Hex is bytes as digits.
func Hex(b []byte) string {
	s := make([]byte, 0, 2*len(b))
	for _, c := range b {
		s = append(s, digits[c>>4], digits[c&15])
	}
	return string(s)
}

// Unhex is digits as bytes.
func Unhex(s string) ([]byte, api.Errno) {
	if len(s)%2 != 0 {
		return nil, api.ErrText
	}
	b := make([]byte, len(s)/2)
	for i := range b {
		high, ok := value(s[2*i])
		low, too := value(s[2*i+1])
		if !ok || !too {
			return nil, api.ErrText
		}
		b[i] = high<<4 | low
	}
	return b, api.OK
}

// value is what a digit stands for, and whether it is one.
func value(digit byte) (byte, bool) {
	switch {
	case '0' <= digit && digit <= '9':
		return digit - '0', true
	case 'a' <= digit && digit <= 'f':
		return digit - 'a' + 10, true
	case 'A' <= digit && digit <= 'F':
		return digit - 'A' + 10, true
	}
	return 0, false
}
