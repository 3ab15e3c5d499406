package impl

import (
	"bytes"
	"errors"
	"slices"
	"testing"
)

func TestNeighbourOfEverySource(t *testing.T) {
	cases := map[int][7]int{
		0: {-1, -1, -1, -1, 1, 5, -1}, 2: {-1, -1, -1, 1, 3, 7, -1}, 4: {-1, -1, -1, 3, -1, 9, -1},
		10: {-1, -1, 5, -1, 11, 15, -1}, 12: {-1, -1, 7, 11, 13, 17, -1}, 14: {-1, -1, 9, 13, -1, 19, -1},
		20: {-1, -1, 15, -1, 21, -1, -1}, 22: {-1, -1, 17, 21, 23, -1, -1}, 24: {-1, -1, 19, 23, -1, -1, -1},
	}
	for tile, want := range cases {
		for source, next := range want {
			if got := neighbourAt(tile, source); got != next {
				t.Errorf("tile %d, source %d: tile %d, want %d", tile, source, got, next)
			}
		}
		for _, source := range []int{-1, 7, 258, 1<<32 + 2} {
			if got := neighbourAt(tile, source); got != noTile {
				t.Errorf("tile %d, source %d: tile %d", tile, source, got)
			}
		}
	}
}

// The sources that are neighbours are in the order in which a search visits neighbours.
func TestNeighboursInOrderOfSources(t *testing.T) {
	for tile := range tileCount {
		found := []int{}
		for source := DriveNone; source <= DriveInput; source++ {
			if next := neighbourAt(tile, source); next != noTile {
				found = append(found, next)
			}
		}
		if want := neighbours(tile); !slices.Equal(found, want) {
			t.Errorf("tile %d: %v, want %v", tile, found, want)
		}
	}
}

// fullWriter takes only so many bytes.
type fullWriter struct {
	taken []byte
	room  int
}

var errFull = errors.New("full")

func (w *fullWriter) Write(list []byte) (int, error) {
	count := min(w.room, len(list))
	w.taken = append(w.taken, list[:count]...)
	w.room -= count
	if count < len(list) {
		return count, errFull
	}
	return count, nil
}

func TestChecksumOfEveryPart(t *testing.T) {
	// 1, then (1*257+5+1), then (263*257+255+1) mod 65521, then (2326*257+0+1) mod 65521.
	sums := []int{1, 263, 2326, 8094}
	list := []byte{5, 255, 0}
	for a := range 4 {
		for b := a; b < 4; b++ {
			out := bytes.Buffer{}
			w := checksumWriter{out: &out, sum: firstSum}
			for _, part := range [][]byte{list[:a], list[a:b], nil} {
				if count, err := w.Write(part); count != len(part) || err != nil {
					t.Errorf("%d bytes of %d: %v", count, len(part), err)
				}
			}
			if w.sum != sums[b] || !bytes.Equal(out.Bytes(), list[:b]) {
				t.Errorf("checksum %d of % x, want %d of % x", w.sum, out.Bytes(), sums[b], list[:b])
			}
		}
	}
}

// Bytes that the other writer does not take do not count.
func TestChecksumOfWhatIsTaken(t *testing.T) {
	out := fullWriter{room: 2}
	w := checksumWriter{out: &out, sum: firstSum}
	if count, err := w.Write([]byte{5, 255, 0}); count != 2 || !errors.Is(err, errFull) {
		t.Errorf("%d bytes: %v", count, err)
	}
	if w.sum != 2326 || !bytes.Equal(out.taken, []byte{5, 255}) {
		t.Errorf("checksum %d of % x", w.sum, out.taken)
	}
}

func TestBytesAreReadInOrder(t *testing.T) {
	list := []byte{200, 0, 1, 2, 7, 8, 9}
	r := byteReader{rest: list}
	if got := r.number(); got != 200 {
		t.Errorf("number %d", got)
	}
	for i, want := range []bool{false, true, true} {
		if got := r.flag(); got != want {
			t.Errorf("flag %d is %v", i, got)
		}
	}
	if got := r.numbers(2); !slices.Equal(got, []int{7, 8}) {
		t.Errorf("numbers %v", got)
	}
	if got := r.numbers(0); len(got) != 0 || !bytes.Equal(r.rest, []byte{9}) {
		t.Errorf("numbers %v, then % x", got, r.rest)
	}
}
