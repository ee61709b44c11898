package impl

const MaxBits = 400
const MaxWidth = 32

func BitsOk(s string) bool {
	if len(s) > MaxBits {
		return false
	}
	for _, bit := range s {
		if bit != '0' && bit != '1' {
			return false
		}
	}
	return true
}

func BitsOf(n int64, count int64) (string, bool) {
	// The count is looked at ahead of the shift, which panics where it is below 0.
	if count < 0 || count > MaxWidth || n < 0 || n>>count != 0 {
		return "", false
	}
	bits := make([]byte, count)
	for i := range bits {
		fromEnd := count - 1 - int64(i)
		bits[i] = '0' + byte(n>>fromEnd&1)
	}
	return string(bits), true
}

func NumberOf(s string) (int64, bool) {
	if len(s) > MaxWidth || !BitsOk(s) {
		return 0, false
	}
	var n int64
	for _, bit := range s {
		n = n*2 + int64(bit-'0')
	}
	return n, true
}

func RunOf(s string) int64 {
	if !BitsOk(s) {
		return 0
	}
	var last rune
	var run int64
	for _, bit := range s {
		if bit != last {
			run = 0
		}
		last = bit
		run++
	}
	return run
}
