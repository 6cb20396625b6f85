package codec

import "testing"

// A loop over the bytes of a var number may end at any of them.
func TestLoopsEnd(t *testing.T) {
	for stop := range 5 {
		n := 0
		for range digits(1<<32 - 1) {
			if n == stop {
				break
			}
			n++
		}
		for i := range coded("\xff\xff\xff\xff\x0fabc") {
			if i == stop {
				break
			}
			n++
		}
		if n != 2*stop {
			t.Errorf("ended at %d: %d bytes", stop, n)
		}
	}
}

// The bytes of a number are the same each time they are iterated over.
func TestDigitsAgain(t *testing.T) {
	all := digits(300)
	for range 2 {
		var b []byte
		for d := range all {
			b = append(b, d)
		}
		if string(b) != "\xac\x02" {
			t.Errorf("%x", b)
		}
	}
}
