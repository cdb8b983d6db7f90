package octet

import "testing"

// This test is inside the package, for the function that the table is held against is not exported.

func TestEachWordIsWhatTheStepsComeTo(t *testing.T) {
	if len(table) != 256 {
		t.Fatal(len(table))
	}
	for i := range 256 {
		if got, want := Word(byte(i)), steps(uint32(i)); got != want {
			t.Errorf("%02x: %08x, not %08x", i, got, want)
		}
	}
}
