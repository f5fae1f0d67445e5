package blocks

import (
	"errors"
	"slices"
	"testing"

	"concord/api"
	"concord/words"
)

// worn is a block of two words at 1, live for the last time, and a freed one beside it at 4. (So many calls of Free would take too long.)
func worn(t *testing.T, size int) (*words.Arena, *Blocks, uint64) {
	t.Helper()
	a, err := words.New(size)
	if err != nil {
		t.Fatal(err)
	}
	b, err := New(a, 1)
	if err != nil {
		t.Fatal(err)
	}
	alloc(t, b, 1)
	other := alloc(t, b, 4)
	if err := b.Free(other); err != nil {
		t.Fatal(err)
	}
	x := b.all[1]
	x.generation = 1<<32 - 2
	b.all[1] = x
	return a, b, (1<<32-2)<<32 + 1
}

// alloc looks that the next block of two words is that one.
func alloc(t *testing.T, b *Blocks, want uint64) uint64 {
	t.Helper()
	ref, err := b.Alloc(2)
	if ref != want || err != nil {
		t.Fatalf("Alloc(2) = %#x, %v, want %#x", ref, err, want)
	}
	return ref
}

// P2.2, P2.6: behind the last generation a block is never live again, and no ref of it is good.
func TestLastGeneration(t *testing.T) {
	a, b, ref := worn(t, 20)
	if n, err := b.Size(ref); n != 2 || err != nil {
		t.Fatalf("Size = %d, %v, want 2", n, err)
	}
	if err := b.Free(ref); err != nil {
		t.Fatal(err)
	}
	if head := a.Words()[1]; head != (1<<32-1)<<32+4 {
		t.Errorf("the head is %#x", head)
	}
	alloc(t, b, 1<<32+4) // freed ahead of it
	alloc(t, b, 7)       // a new one
	for _, stale := range []uint64{ref, (1<<32-1)<<32 + 1, 1} {
		if _, err := b.Size(stale); !errors.Is(err, api.ErrStale) || api.Place(err) != 1 {
			t.Errorf("Size(%#x): %v, want ErrStale at 1", stale, err)
		}
		if err := b.Free(stale); !errors.Is(err, api.ErrStale) {
			t.Errorf("Free(%#x): %v, want ErrStale", stale, err)
		}
	}
	if live := b.Live(); !slices.Equal(live, []uint64{1<<32 + 4, 7}) || b.Used() != 6 || b.Top() != 10 {
		t.Errorf("Live, Used, Top = %#x, %d, %d", live, b.Used(), b.Top())
	}
}

// P2.2: such a block is no room.
func TestLastGenerationIsNoRoom(t *testing.T) {
	_, b, ref := worn(t, 7)
	if err := b.Free(ref); err != nil {
		t.Fatal(err)
	}
	alloc(t, b, 1<<32+4)
	if _, err := b.Alloc(2); !errors.Is(err, api.ErrFull) {
		t.Errorf("Alloc: %v, want ErrFull", err)
	}
}

// P2.2: up to the last generation a block is given out again.
func TestGenerationAheadOfTheLast(t *testing.T) {
	_, b, _ := worn(t, 7)
	x := b.all[1]
	x.generation = 1<<32 - 3
	b.all[1] = x
	if err := b.Free((1<<32-3)<<32 + 1); err != nil {
		t.Fatal(err)
	}
	alloc(t, b, (1<<32-2)<<32+1)
}
