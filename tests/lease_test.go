package tests

import (
	"math"
	"math/big"
	"slices"
	"testing"

	"loop.example/g00153/impl"
)

// The limits stand here as the document writes them, so that a changed constant is noticed.
const (
	lastMachine = 7
	lastTime    = 1000000000000
	lastDrift   = 100000
	whole       = 1000000
)

func leaseOf(start, length int64) impl.Lease {
	return impl.Lease{Holder: 3, Start: start, Length: length}
}

// What follows says the chapter once more, in numbers of any size.

func plainLeaseOk(l impl.Lease) bool {
	if l.Holder < 0 || l.Holder > lastMachine {
		return false
	}
	return l.Start >= 0 && l.Start <= lastTime && l.Length > 0 && l.Length <= lastTime
}

func plainAsked(l impl.Lease, now, drift int64) bool {
	return plainLeaseOk(l) && now >= 0 && now <= lastTime && drift >= 0 && drift <= lastDrift
}

func timesRate(span, rate int64) *big.Int {
	return new(big.Int).Mul(big.NewInt(span), big.NewInt(rate))
}

func plainSafe(l impl.Lease, now, drift int64) bool {
	if !plainAsked(l, now, drift) || now < l.Start {
		return false
	}
	return timesRate(now-l.Start, whole+drift).Cmp(timesRate(l.Length, whole-drift)) <= 0
}

func plainDead(l impl.Lease, now, drift int64) bool {
	if !plainAsked(l, now, drift) {
		return false
	}
	return timesRate(now-l.Start, whole-drift).Cmp(timesRate(l.Length, whole+drift)) > 0
}

func plainEnds(l impl.Lease) int64 {
	if !plainLeaseOk(l) {
		return -1
	}
	return l.Start + l.Length
}

func plainRenew(l impl.Lease, now int64) impl.Lease {
	if !plainLeaseOk(l) || now < l.Start || now > lastTime {
		return impl.Lease{}
	}
	return impl.Lease{Holder: l.Holder, Start: now, Length: l.Length}
}

func checkSafe(t *testing.T, l impl.Lease, now, drift int64, want bool) {
	t.Helper()
	if got := impl.Safe(l, now, drift); got != want {
		t.Errorf("Safe(%+v, %d, %d) = %v, want %v", l, now, drift, got, want)
	}
}

func checkDead(t *testing.T, l impl.Lease, now, drift int64, want bool) {
	t.Helper()
	if got := impl.Dead(l, now, drift); got != want {
		t.Errorf("Dead(%+v, %d, %d) = %v, want %v", l, now, drift, got, want)
	}
}

func checkRenew(t *testing.T, l impl.Lease, now int64, want impl.Lease) {
	t.Helper()
	if got := impl.Renew(l, now); got != want {
		t.Errorf("Renew(%+v, %d) = %+v, want %+v", l, now, got, want)
	}
}

// checkLease holds every function of the chapter against the chapter as it is said above.
func checkLease(t *testing.T, l impl.Lease, now, drift int64) {
	t.Helper()
	if got := impl.LeaseOk(l); got != plainLeaseOk(l) {
		t.Errorf("LeaseOk(%+v) = %v", l, got)
	}
	if got := impl.Ends(l); got != plainEnds(l) {
		t.Errorf("Ends(%+v) = %d, want %d", l, got, plainEnds(l))
	}
	checkRenew(t, l, now, plainRenew(l, now))
	checkSafe(t, l, now, drift, plainSafe(l, now, drift))
	checkDead(t, l, now, drift, plainDead(l, now, drift))
}

// lastSafe and firstDead: how long behind its Start a lease is safe yet, and dead at last.
func lastSafe(length, drift int64) int64 {
	span := new(big.Int).Div(timesRate(length, whole-drift), big.NewInt(whole+drift))
	return span.Int64()
}

func firstDead(length, drift int64) int64 {
	span := new(big.Int).Div(timesRate(length, whole+drift), big.NewInt(whole-drift))
	return span.Int64() + 1
}

var (
	someStarts  = []int64{0, 1, 100, 123456789, 500000000000, lastTime - 5000, lastTime - 1, lastTime}
	someLengths = []int64{1, 2, 3, 10, 999, 1000, 1001, 1000000, 7777777777, 500000000000, lastTime - 1, lastTime}
	someDrifts  = []int64{0, 1, 7, 500, 9999, 10000, 33333, lastDrift - 1, lastDrift}
)

func TestLimitsOfLeases(t *testing.T) {
	if impl.MaxTime != lastTime || impl.MaxDrift != lastDrift {
		t.Errorf("MaxTime %d, MaxDrift %d, want %d, %d", impl.MaxTime, impl.MaxDrift, lastTime, lastDrift)
	}
}

func TestLeasesAtTheirLimits(t *testing.T) {
	cases := []struct {
		lease impl.Lease
		want  int64
	}{
		{impl.Lease{Holder: 0, Start: 0, Length: 1}, 1},
		{impl.Lease{Holder: 7, Start: 5, Length: 20}, 25},
		{impl.Lease{Holder: 8, Start: 5, Length: 20}, -1},
		{impl.Lease{Holder: -1, Start: 5, Length: 20}, -1},
		{impl.Lease{Holder: 2, Start: 0, Length: 20}, 20},
		{impl.Lease{Holder: 2, Start: -1, Length: 20}, -1},
		{impl.Lease{Holder: 2, Start: 1000000000000, Length: 20}, 1000000000020},
		{impl.Lease{Holder: 2, Start: 1000000000001, Length: 20}, -1},
		{impl.Lease{Holder: 2, Start: 5, Length: 1}, 6},
		{impl.Lease{Holder: 2, Start: 5, Length: 0}, -1},
		{impl.Lease{Holder: 2, Start: 5, Length: -1}, -1},
		{impl.Lease{Holder: 2, Start: 5, Length: 1000000000000}, 1000000000005},
		{impl.Lease{Holder: 2, Start: 5, Length: 1000000000001}, -1},
		{impl.Lease{Holder: 7, Start: 1000000000000, Length: 1000000000000}, 2000000000000},
		{impl.Lease{}, -1},
		{impl.Lease{Holder: math.MinInt64, Start: 5, Length: 20}, -1},
		{impl.Lease{Holder: math.MaxInt64, Start: 5, Length: 20}, -1},
		{impl.Lease{Holder: 2, Start: math.MaxInt64, Length: 1}, -1},
		{impl.Lease{Holder: 2, Start: math.MinInt64, Length: math.MinInt64}, -1},
		{impl.Lease{Holder: 2, Start: 5, Length: math.MaxInt64}, -1},
	}
	for _, c := range cases {
		if got := impl.LeaseOk(c.lease); got != (c.want >= 0) {
			t.Errorf("LeaseOk(%+v) = %v", c.lease, got)
		}
		if got := impl.Ends(c.lease); got != c.want {
			t.Errorf("Ends(%+v) = %d, want %d", c.lease, got, c.want)
		}
	}
}

func TestEveryHolderHasLeases(t *testing.T) {
	for holder := int64(-3); holder <= lastMachine+3; holder++ {
		l := impl.Lease{Holder: holder, Start: 100, Length: 1000}
		checkLease(t, l, 500, 10000)
		checkLease(t, l, 5000, 10000)
	}
}

func TestRenewByHand(t *testing.T) {
	l := impl.Lease{Holder: 7, Start: 100, Length: 1000}
	checkRenew(t, l, 100, l)
	checkRenew(t, l, 101, impl.Lease{Holder: 7, Start: 101, Length: 1000})
	checkRenew(t, l, 99, impl.Lease{})
	checkRenew(t, l, 0, impl.Lease{})
	checkRenew(t, l, -1, impl.Lease{})
	// A lease that ran out long ago is renewed as well: the chapter asks for a time not before its Start, no more.
	checkRenew(t, l, 5000, impl.Lease{Holder: 7, Start: 5000, Length: 1000})
	checkRenew(t, l, 1000000000000, impl.Lease{Holder: 7, Start: 1000000000000, Length: 1000})
	checkRenew(t, l, 1000000000001, impl.Lease{})
	checkRenew(t, l, math.MaxInt64, impl.Lease{})
	checkRenew(t, l, math.MinInt64, impl.Lease{})
	checkRenew(t, impl.Lease{Holder: 0, Start: 0, Length: 1}, 0, impl.Lease{Holder: 0, Start: 0, Length: 1})
	checkRenew(t, impl.Lease{Holder: 0, Start: 0, Length: 1}, -1, impl.Lease{})
	checkRenew(t, impl.Lease{Holder: 8, Start: 0, Length: 1}, 5, impl.Lease{})
	checkRenew(t, impl.Lease{Holder: 3, Start: 0, Length: 0}, 5, impl.Lease{})
	checkRenew(t, impl.Lease{Holder: 3, Start: -1, Length: 3}, 5, impl.Lease{})
	checkRenew(t, impl.Lease{}, 0, impl.Lease{})
}

func TestRenewedLeasesEndLater(t *testing.T) {
	for _, start := range someStarts {
		for _, length := range someLengths {
			l := leaseOf(start, length)
			for _, now := range []int64{start, start + 1, start + length, start + 2*length, lastTime} {
				got := impl.Renew(l, now)
				if now > lastTime {
					checkRenew(t, l, now, impl.Lease{})
					continue
				}
				if got.Holder != l.Holder || impl.Ends(got) != impl.Ends(l)+now-start {
					t.Errorf("Renew(%+v, %d) = %+v", l, now, got)
				}
				if !impl.Safe(got, now, lastDrift) || impl.Dead(got, now, 0) {
					t.Errorf("Renew(%+v, %d) is not safe at once", l, now)
				}
			}
		}
	}
}

func TestSafeAndDeadByHand(t *testing.T) {
	cases := []struct {
		lease      impl.Lease
		now, drift int64
		safe, dead bool
	}{
		// Without drift the one begins where the other ends.
		{leaseOf(100, 1000), 100, 0, true, false},
		{leaseOf(100, 1000), 99, 0, false, false},
		{leaseOf(100, 1000), 1100, 0, true, false},
		{leaseOf(100, 1000), 1101, 0, false, true},
		{leaseOf(0, 1), 0, 0, true, false},
		{leaseOf(0, 1), 1, 0, true, false},
		{leaseOf(0, 1), 2, 0, false, true},
		// A short one with drift: neither of both, for a while.
		{leaseOf(0, 1), 0, 100000, true, false},
		{leaseOf(0, 1), 1, 100000, false, false},
		{leaseOf(0, 1), 2, 100000, false, true},
		{leaseOf(0, 1), 1, 1, false, false},
		// 1000 times 990000 by 1010000 is 980.2, 1000 times 1010000 by 990000 is 1020.2.
		{leaseOf(100, 1000), 1080, 10000, true, false},
		{leaseOf(100, 1000), 1081, 10000, false, false},
		{leaseOf(100, 1000), 1120, 10000, false, false},
		{leaseOf(100, 1000), 1121, 10000, false, true},
		// Products that are just as great: 900 times 1100000 and 1100 times 900000.
		{leaseOf(0, 1100), 900, 100000, true, false},
		{leaseOf(0, 1100), 901, 100000, false, false},
		{leaseOf(50, 900), 1150, 100000, false, false},
		{leaseOf(50, 900), 1151, 100000, false, true},
		// The greatest products.
		{leaseOf(0, 1000000000000), 818181818181, 100000, true, false},
		{leaseOf(0, 1000000000000), 818181818182, 100000, false, false},
		{leaseOf(0, 1000000000000), 1000000000000, 100000, false, false},
		{leaseOf(0, 1000000000000), 1000000000000, 0, true, false},
		{leaseOf(0, 818181818181), 1000000000000, 100000, false, true},
		{leaseOf(0, 818181818182), 1000000000000, 100000, false, false},
		{leaseOf(0, 1), 1000000000000, 100000, false, true},
		{leaseOf(1000000000000, 1), 1000000000000, 100000, true, false},
		{leaseOf(1000000000000, 1), 999999999999, 0, false, false},
		{leaseOf(1000000000000, 1), 0, 100000, false, false},
	}
	for _, c := range cases {
		checkSafe(t, c.lease, c.now, c.drift, c.safe)
		checkDead(t, c.lease, c.now, c.drift, c.dead)
	}
}

// spanOneGreater finds the span and the length, as great as may be, of which the one times by is just one more than the other times against (no factor is common to both rates).
func spanOneGreater(by, against int64) (int64, int64) {
	inverse := new(big.Int).ModInverse(big.NewInt(by), big.NewInt(against)).Int64()
	length := (inverse*by - 1) / against
	more := min((lastTime-inverse)/against, (lastTime-length)/by)
	return inverse + more*against, length + more*by
}

func TestProductsThatAreOneGreater(t *testing.T) {
	for _, drift := range []int64{1, 3, 7, 9999, 33333, 99999} {
		fast, slow := whole+drift, whole-drift
		span, length := spanOneGreater(fast, slow)
		if span*fast != length*slow+1 || span > lastTime || length > lastTime {
			t.Fatalf("drift %d: %d and %d are none of this kind", drift, span, length)
		}
		checkSafe(t, leaseOf(0, length), span, drift, false)
		checkSafe(t, leaseOf(0, length), span-1, drift, true)
		span, length = spanOneGreater(slow, fast)
		if span*slow != length*fast+1 || span > lastTime || length > lastTime {
			t.Fatalf("drift %d: %d and %d are none of that kind", drift, span, length)
		}
		checkDead(t, leaseOf(0, length), span, drift, true)
		checkDead(t, leaseOf(0, length), span-1, drift, false)
		// Just as great, at the greatest: for Safe yes, for Dead no.
		times := lastTime / fast
		checkSafe(t, leaseOf(0, times*fast), times*slow, drift, true)
		checkSafe(t, leaseOf(0, times*fast), times*slow+1, drift, false)
		checkDead(t, leaseOf(0, times*slow), times*fast, drift, false)
		checkDead(t, leaseOf(0, times*slow), times*fast+1, drift, true)
	}
}

func TestLeasesAroundTheirEnds(t *testing.T) {
	for _, start := range someStarts {
		for _, length := range someLengths {
			for _, drift := range someDrifts {
				safe, dead := lastSafe(length, drift), firstDead(length, drift)
				for _, span := range []int64{-start - 1, -start, -1, 0, 1, safe - 1, safe, safe + 1, length - 1, length, length + 1, dead - 1, dead, dead + 1, lastTime - start, lastTime - start + 1} {
					checkLease(t, leaseOf(start, length), start+span, drift)
				}
			}
		}
	}
}

func TestAtEachMomentWhoIsSafeIsNotDead(t *testing.T) {
	for _, start := range []int64{0, 40} {
		for length := int64(1); length <= 30; length++ {
			for _, drift := range someDrifts {
				l := leaseOf(start, length)
				for now := start - 2; now <= start+2*length+2; now++ {
					checkLease(t, l, now, drift)
					if impl.Safe(l, now, drift) && impl.Dead(l, now, drift) {
						t.Fatalf("%+v is safe and dead at %d with a drift of %d", l, now, drift)
					}
				}
			}
		}
	}
}

// readings: what clocks that drift no more than told may show when this span has passed, rounded to where it lies within.
func readings(span, drift int64) []int64 {
	slowest := (span*(whole-drift) + whole - 1) / whole
	fastest := span * (whole + drift) / whole
	list := []int64{slowest, span, fastest}
	return slices.Compact(list)
}

func TestWhoIsSafeByItsClockIsNotDeadByAnother(t *testing.T) {
	for _, length := range []int64{1, 2, 10, 999, 1000, 1000000, 7777777} {
		for _, drift := range someDrifts {
			for _, start := range []int64{0, 100, 5000000} {
				l := leaseOf(start, length)
				// Around the moments at which one of the two may change its mind, and evenly in between.
				var spans []int64
				for _, near := range []int64{lastSafe(length, drift), firstDead(length, drift), length, length * whole / (whole + drift), length * whole / (whole - drift)} {
					for by := int64(-3); by <= 3; by++ {
						spans = append(spans, max(0, near+by))
					}
				}
				for part := range int64(40) {
					spans = append(spans, length*part/20)
				}
				for _, span := range spans {
					checkBothClocks(t, l, span, drift)
				}
			}
		}
	}
}

func checkBothClocks(t *testing.T, l impl.Lease, span, drift int64) {
	t.Helper()
	for _, holders := range readings(span, drift) {
		for _, others := range readings(span, drift) {
			if impl.Safe(l, l.Start+holders, drift) && impl.Dead(l, l.Start+others, drift) {
				t.Errorf("%+v with a drift of %d, %d after its Start: safe by a clock at %d, dead by one at %d", l, drift, span, holders, others)
			}
		}
	}
}

func TestSafeAtFirstDeadAtLast(t *testing.T) {
	for _, length := range someLengths {
		for _, drift := range someDrifts {
			l := leaseOf(0, length)
			checkSafe(t, l, 0, drift, true)
			checkDead(t, l, 0, drift, false)
			if dead := firstDead(length, drift); dead <= lastTime {
				checkSafe(t, l, dead, drift, false)
				checkDead(t, l, dead, drift, true)
				checkDead(t, l, lastTime, drift, true)
			}
		}
	}
}

func TestDriftsAtTheirLimits(t *testing.T) {
	l := leaseOf(100, 1000)
	for _, drift := range []int64{0, 1, 99999, 100000} {
		checkSafe(t, l, 100, drift, true)
		checkDead(t, l, 100000, drift, true)
	}
	for _, drift := range []int64{-1, 100001, -100000, 1000000, 1000001, math.MinInt64, math.MaxInt64} {
		for _, now := range []int64{99, 100, 101, 1100, 5000, 100000, lastTime} {
			checkSafe(t, l, now, drift, false)
			checkDead(t, l, now, drift, false)
		}
	}
}

func TestTimesThatAreNone(t *testing.T) {
	for _, l := range []impl.Lease{leaseOf(0, 1), leaseOf(0, 1000), leaseOf(5, lastTime), leaseOf(lastTime, lastTime), leaseOf(lastTime, 1)} {
		for _, now := range []int64{-1, -2, -lastTime, lastTime + 1, lastTime + 2, 3 * lastTime, math.MinInt64, math.MaxInt64} {
			for _, drift := range someDrifts {
				checkSafe(t, l, now, drift, false)
				checkDead(t, l, now, drift, false)
			}
			checkRenew(t, l, now, impl.Lease{})
		}
	}
}

func TestLeasesThatAreNone(t *testing.T) {
	wrong := []int64{math.MinInt64, -1, math.MaxInt64}
	var none []impl.Lease
	for _, n := range wrong {
		none = append(none, impl.Lease{Holder: n, Start: 5, Length: 20}, impl.Lease{Holder: 2, Start: n, Length: 20}, impl.Lease{Holder: 2, Start: 5, Length: n})
	}
	none = append(none, impl.Lease{}, leaseOf(5, 0), impl.Lease{Holder: 8, Start: 5, Length: 20}, leaseOf(lastTime+1, 20), leaseOf(5, lastTime+1))
	for _, l := range none {
		if impl.LeaseOk(l) || impl.Ends(l) != -1 {
			t.Errorf("%+v: LeaseOk %v, Ends %d", l, impl.LeaseOk(l), impl.Ends(l))
		}
		for _, now := range []int64{0, 5, 6, 26, 1000, lastTime} {
			for _, drift := range someDrifts {
				checkSafe(t, l, now, drift, false)
				checkDead(t, l, now, drift, false)
			}
			checkRenew(t, l, now, impl.Lease{})
		}
	}
}
