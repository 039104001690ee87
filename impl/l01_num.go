package impl

import "strconv"

const MaxVar = 562949953421311

const maxWidth = 7
const maxVarBytes = 7
const maxDec = 999999999

const hexDigits = "0123456789abcdef"

// put lays the bytes into room from at on and tells the place behind them.
// Its callers make the room once, so that a long text is not copied anew for
// each of its bytes.
func put(room []byte, at int, bytes ...byte) int {
	return at + copy(room[at:], bytes)
}

func Fixed(n int, width int) string {
	if width < 1 || width > maxWidth || n < 0 || n>>(8*width) != 0 {
		return ""
	}
	room := make([]byte, width)
	at := 0
	for shift := 8 * (width - 1); shift >= 0; shift -= 8 {
		at = put(room, at, byte(n>>shift))
	}
	return string(room)
}

func ReadFixed(s string, width int) (int, bool) {
	if width < 1 || width > maxWidth || len(s) < width {
		return 0, false
	}
	n := 0
	for i := 0; i < width; i++ {
		n = n<<8 | int(s[i])
	}
	return n, true
}

func Var(n int) string {
	if n < 0 || n > MaxVar {
		return ""
	}
	room := make([]byte, maxVarBytes)
	at := 0
	for ; n > 127; n >>= 7 {
		at = put(room, at, byte(n&127|128))
	}
	at = put(room, at, byte(n))
	return string(room[:at])
}

func ReadVar(s string) (int, int) {
	n := 0
	for i := 0; i < len(s) && i < maxVarBytes; i++ {
		n |= int(s[i]&127) << (7 * i)
		if s[i] > 127 {
			continue
		}
		// A last byte 0 adds nothing: Var would have ended ahead of it.
		if s[i] == 0 && i > 0 {
			return 0, 0
		}
		return n, i + 1
	}
	return 0, 0
}

func Hex(s string) string {
	room := make([]byte, 2*len(s))
	at := 0
	for i := 0; i < len(s); i++ {
		at = put(room, at, hexDigits[s[i]>>4], hexDigits[s[i]&15])
	}
	return string(room)
}

func Unhex(s string) (string, bool) {
	if len(s)%2 != 0 {
		return "", false
	}
	room := make([]byte, len(s)/2)
	at := 0
	for i := 0; i < len(s); i += 2 {
		high, low := hexValue(s[i]), hexValue(s[i+1])
		if high < 0 || low < 0 {
			return "", false
		}
		at = put(room, at, byte(high<<4|low))
	}
	return string(room), true
}

// hexValue is -1 for a byte that Hex never makes, the letters A to F among them.
func hexValue(b byte) int {
	switch {
	case b >= '0' && b <= '9':
		return int(b - '0')
	case b >= 'a' && b <= 'f':
		return int(b-'a') + 10
	}
	return -1
}

func Dec(n int) string {
	return strconv.Itoa(n)
}

func ReadDec(s string) (int, bool) {
	n, err := strconv.Atoi(s)
	if err != nil || n < -maxDec || n > maxDec {
		return 0, false
	}
	// Atoi takes +1, -0 and 007 as well, which Dec makes of no number.
	if Dec(n) != s {
		return 0, false
	}
	return n, true
}
