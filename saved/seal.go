package saved

// checkBase is what both halves of the newest form's check are counted modulo.
const checkBase = 65521

// sum counts bytes together; it wraps round at 65536, which form 2 asks for and
// which does no harm to form 1: 256 divides 65536.
func sum(ahead string) uint16 {
	var total uint16
	for i := range len(ahead) {
		total += uint16(ahead[i])
	}
	return total
}

// shortSum is the last byte of form 1.
func shortSum(ahead string) string {
	return string([]byte{byte(sum(ahead))})
}

// longSum is the last two bytes of form 2.
func longSum(ahead string) string {
	return string(appendWord(nil, sum(ahead)))
}

// check is the last four bytes of form 3.
func check(ahead string) string {
	a, b := 1, 0
	for i := range len(ahead) {
		a = (a + int(ahead[i])) % checkBase
		b = (b + a) % checkBase
	}
	return string(appendWord(appendWord(nil, uint16(a)), uint16(b)))
}
