package tests

import (
	"math"
	"testing"

	"loop.example/g00153/impl"
)

// The limits stand here as the document writes them, so that a changed constant is noticed.
const (
	lastVersion = 1000000
	lastHead    = 4*lastVersion + 3
)

var flagPairs = [][2]bool{{false, false}, {false, true}, {true, false}, {true, true}}

func headOf(version int64, used, locked bool) int64 {
	head := 4 * version
	if used {
		head += 2
	}
	if locked {
		head++
	}
	return head
}

func checkToldApart(t *testing.T, head, version int64, used, locked bool) {
	t.Helper()
	if !impl.HeadOk(head) {
		t.Errorf("HeadOk(%d) = false", head)
	}
	if got := impl.Version(head); got != version {
		t.Errorf("Version(%d) = %d, want %d", head, got, version)
	}
	if got := impl.Used(head); got != used {
		t.Errorf("Used(%d) = %v, want %v", head, got, used)
	}
	if got := impl.Locked(head); got != locked {
		t.Errorf("Locked(%d) = %v, want %v", head, got, locked)
	}
}

func checkNext(t *testing.T, head int64, used bool, want int64, wantOk bool) {
	t.Helper()
	got, ok := impl.Next(head, used)
	if got != want || ok != wantOk {
		t.Errorf("Next(%d, %v) = %d, %v, want %d, %v", head, used, got, ok, want, wantOk)
	}
}

func TestLimitsOfTheConventions(t *testing.T) {
	got := []int64{impl.MaxValue, impl.MaxVersion, impl.MaxMachines, impl.MaxRegions, impl.MaxSlots, impl.MaxId}
	want := []int64{1000000000, lastVersion, 8, 6, 6, 1000000}
	for i := range want {
		if got[i] != want[i] {
			t.Errorf("limit number %d is %d, want %d", i, got[i], want[i])
		}
	}
}

func TestPackedHeadsAreToldApart(t *testing.T) {
	for _, version := range []int64{0, 1, 2, 3, 5, 63, 64, 4096, 65535, 65536, 524288, 999999, lastVersion} {
		for _, f := range flagPairs {
			head, ok := impl.Pack(version, f[0], f[1])
			if want := headOf(version, f[0], f[1]); !ok || head != want {
				t.Errorf("Pack(%d, %v, %v) = %d, %v, want %d, true", version, f[0], f[1], head, ok, want)
			}
			checkToldApart(t, head, version, f[0], f[1])
		}
	}
}

func TestHeadsByHand(t *testing.T) {
	cases := []struct {
		head, version int64
		used, locked  bool
	}{
		{0, 0, false, false},
		{1, 0, false, true},
		{2, 0, true, false},
		{3, 0, true, true},
		{4, 1, false, false},
		{23, 5, true, true},
		{4000000, 1000000, false, false},
		{4000001, 1000000, false, true},
		{4000002, 1000000, true, false},
		{4000003, 1000000, true, true},
	}
	for _, c := range cases {
		if head, ok := impl.Pack(c.version, c.used, c.locked); !ok || head != c.head {
			t.Errorf("Pack(%d, %v, %v) = %d, %v, want %d, true", c.version, c.used, c.locked, head, ok, c.head)
		}
		checkToldApart(t, c.head, c.version, c.used, c.locked)
	}
}

func TestEveryHeadIsPackedAgain(t *testing.T) {
	for head := int64(0); head <= lastHead; head++ {
		again, ok := impl.Pack(impl.Version(head), impl.Used(head), impl.Locked(head))
		if !impl.HeadOk(head) || !ok || again != head {
			t.Fatalf("head %d (HeadOk %v) is packed again as %d, %v", head, impl.HeadOk(head), again, ok)
		}
	}
}

func TestPackRefusesVersionsOutOfRange(t *testing.T) {
	// 4 times those around 1 << 62 wraps round to what looks like a head.
	wrong := []int64{-1, -2, -lastVersion, lastVersion + 1, lastVersion + 2, lastHead, 1 << 32,
		1 << 62, 1<<62 + 5, -1 << 62, math.MaxInt64, math.MinInt64, math.MinInt64 + 1}
	for _, version := range wrong {
		for _, f := range flagPairs {
			if head, ok := impl.Pack(version, f[0], f[1]); head != 0 || ok {
				t.Errorf("Pack(%d, %v, %v) = %d, %v, want 0, false", version, f[0], f[1], head, ok)
			}
		}
	}
}

func TestNumbersThatAreNoHead(t *testing.T) {
	// Those 23 past 1 << 32 and -1 << 32 would be heads if they were cut to 32 bits.
	wrong := []int64{-1, -2, -3, -4, -5, -lastHead, lastHead + 1, lastHead + 2, lastHead + 4, 1 << 31, 1<<32 - 1,
		1<<32 + 23, -1<<32 + 23, 1 << 62, math.MaxInt64, math.MaxInt64 - 3, math.MinInt64, math.MinInt64 + 3}
	for _, head := range wrong {
		if impl.HeadOk(head) {
			t.Errorf("HeadOk(%d) = true", head)
		}
		if v, u, l := impl.Version(head), impl.Used(head), impl.Locked(head); v != -1 || u || l {
			t.Errorf("%d is told apart into %d, %v, %v, want -1, false, false", head, v, u, l)
		}
		checkNext(t, head, false, 0, false)
		checkNext(t, head, true, 0, false)
	}
}

func TestNextIsOneVersionOnAndNotLocked(t *testing.T) {
	for _, version := range []int64{0, 1, 5, 4095, 65535, 999998, lastVersion - 1} {
		for _, f := range flagPairs {
			head := headOf(version, f[0], f[1])
			checkNext(t, head, false, headOf(version+1, false, false), true)
			checkNext(t, head, true, headOf(version+1, true, false), true)
		}
	}
}

func TestNextEndsAtTheLastVersion(t *testing.T) {
	for _, f := range flagPairs {
		head := headOf(lastVersion, f[0], f[1])
		checkNext(t, head, false, 0, false)
		checkNext(t, head, true, 0, false)
	}
}
