package man_test

import (
	"math"
	"math/rand"
	"slices"
	"testing"

	"fascicle/api"
	"fascicle/man"
)

// mayBe tells the plain way whether a man may be.
func mayBe(m api.Man) bool {
	if len(m.Runs) > api.MaxRuns || m.Next > most {
		return false
	}
	seen := map[uint64]int{}
	for _, v := range append([]uint64{m.Wal}, m.Runs...) {
		seen[v]++
		if v < 1 || v >= m.Next || seen[v] > 1 {
			return false
		}
	}
	return true
}

// asked fails the test unless Check and Put tell whether the man may be, and leave it as it was.
func asked(t *testing.T, m api.Man) {
	t.Helper()
	runs := slices.Clone(m.Runs)
	want, bytes := api.ErrArg, ""
	if mayBe(m) {
		want, bytes = api.OK, bytesOf(m)
	}
	if e := man.Check(m); e != want {
		t.Fatalf("Check of %v: %v, not %v", m, e, want)
	}
	if s, e := man.Put(m); s != bytes || e != want {
		t.Fatalf("Put of %v: %s %v, not %s %v", m, short(s), e, short(bytes), want)
	}
	if !slices.Equal(runs, m.Runs) {
		t.Fatalf("runs %v, not %v", m.Runs, runs)
	}
}

// allowed fails the test unless all of these may be.
func allowed(t *testing.T, l ...api.Man) {
	t.Helper()
	for _, m := range l {
		if e := man.Check(m); e != api.OK {
			t.Fatalf("Check of %v: %v", m, e)
		}
		asked(t, m)
	}
}

// denied fails the test unless none of these may be.
func denied(t *testing.T, l ...api.Man) {
	t.Helper()
	for _, m := range l {
		if e := man.Check(m); e != api.ErrArg {
			t.Fatalf("Check of %v: %v", m, e)
		}
		asked(t, m)
	}
}

// wrongMans may not be.
func wrongMans() []api.Man {
	return []api.Man{
		{}, of(0, 1), of(1, 0), of(1, 1), of(2, 1), of(0, 2), of(0, 2, 1), of(1, 2, 0), of(1, 2, 1), of(1, 2, 2), of(1, 3, 3), of(1, 4, 2, 2), of(1, 4, 2, 3, 2),
		of(1, most+1), of(1, math.MaxUint64), of(most, most), of(1, most, most), of(math.MaxUint64, 0), of(math.MaxUint64, math.MaxUint64), of(1, 0, 2),
		of(257, 258, rising(0, api.MaxRuns)...), of(258, 259, rising(1, api.MaxRuns+1)...), of(1, 1000, rising(1, api.MaxRuns)...), of(1, 1000, rising(745, api.MaxRuns)...),
	}
}

// P11.1: mans with no runs, one, several and as many as may be: they may be, whatever the order of their runs.
func TestCheck(t *testing.T) {
	allowed(t, mans()...)
	allowed(t, api.Man{Wal: 1, Next: 2, Runs: []uint64{}}, of(1, 3, 2), of(2, 3, 1), of(2, 4, 3, 1), of(2, 4, 1, 3), of(3, 4, 2, 1))
	denied(t, wrongMans()...)
}

// P11.1: as many runs as may be, and more.
func TestCheckMany(t *testing.T) {
	for _, n := range []int{0, 1, 2, api.MaxRuns - 1, api.MaxRuns} {
		allowed(t, of(uint64(n)+1, uint64(n)+2, rising(1, n)...), of(1, most, falling(2, n)...))
	}
	for _, n := range []int{api.MaxRuns + 1, api.MaxRuns + 2, 2 * api.MaxRuns, 1 << 16} {
		denied(t, of(uint64(n)+1, uint64(n)+2, rising(1, n)...), of(1, most, falling(2, n)...))
	}
}

// P11.1: a number that stands twice: the wal's and a run's, each one, and two runs', each two of them.
func TestCheckTwice(t *testing.T) {
	for _, n := range []int{1, 2, 3, 7, 20} {
		for _, runs := range [][]uint64{rising(2, n), falling(2, n)} {
			for i := range runs {
				denied(t, of(runs[i], 100, runs...))
				for j := range i {
					l := slices.Clone(runs)
					l[i] = l[j]
					denied(t, of(1, 100, l...))
					l[j] = 50
					allowed(t, of(1, 100, l...))
				}
			}
		}
	}
	all := rising(2, api.MaxRuns)
	for i := range all {
		denied(t, of(all[i], most, all...))
		for _, j := range []int{0, 1, 128, 254, 255} {
			if i != j {
				l := slices.Clone(all)
				l[i] = l[j]
				denied(t, of(1, most, l...))
			}
		}
	}
}

// P11.1: each number, at each place: from 1 to Next less 1.
func TestCheckNumbers(t *testing.T) {
	for _, next := range []uint64{100, most - 1, most} {
		for _, v := range []uint64{1, 99, next - 1} {
			allowed(t, of(v, next))
		}
		for _, v := range []uint64{0, next, next + 1, 2 * next, most + 1, 1 << 63, math.MaxUint64 - 1, math.MaxUint64} {
			denied(t, of(v, next))
		}
		for _, n := range []int{1, 2, 5} {
			for i := range n {
				m := of(50, next, rising(10, n)...)
				for _, v := range []uint64{1, 99, next - 1} {
					m.Runs[i] = v
					allowed(t, m)
				}
				for _, v := range []uint64{0, next, next + 1, 2 * next, most + 1, 1 << 63, math.MaxUint64 - 1, math.MaxUint64} {
					m.Runs[i] = v
					denied(t, m)
				}
			}
		}
	}
}

// P11.1: each Next: at most 2^40, and above all numbers.
func TestCheckNext(t *testing.T) {
	for _, m := range []api.Man{of(1, 0), of(7, 0), of(1, 0, 7), of(7, 0, 1), of(6, 0, 1, 7, 2)} {
		top := max(m.Wal, slices.Max(append([]uint64{0}, m.Runs...)))
		for _, next := range []uint64{top + 1, top + 2, 1 << 20, 1 << 32, most - 1, most} {
			m.Next = next
			allowed(t, m)
		}
		for _, next := range []uint64{0, 1, top - 1, top, most + 1, most + 2, 2 * most, 1 << 63, math.MaxUint64 - 1, math.MaxUint64} {
			m.Next = next
			denied(t, m)
		}
	}
	// No number is too small for any Next.
	for _, next := range []uint64{0, 1} {
		for _, v := range []uint64{0, 1, 2, most, math.MaxUint64} {
			denied(t, of(v, next), of(v, next, v+1))
		}
	}
}

// P11.1: mans of any small numbers, and of numbers about the limits, against a plain model.
func TestCheckAny(t *testing.T) {
	r := rand.New(rand.NewSource(11))
	both := [2]int{}
	for range 20000 {
		m := anyMan(r)
		asked(t, m)
		if mayBe(m) {
			both[1]++
		} else {
			both[0]++
		}
	}
	if both[0] < 2000 || both[1] < 2000 {
		t.Fatalf("%d mans may not be, %d may: too few", both[0], both[1])
	}
}

// anyMan is a man that may be, or not.
func anyMan(r *rand.Rand) api.Man {
	n := r.Intn(5)
	if r.Intn(20) == 0 {
		n = api.MaxRuns - 1 + r.Intn(3)
	}
	next := uint64(2 + n + r.Intn(8))
	if r.Intn(4) == 0 {
		next = most + 1 - uint64(r.Intn(3))
	}
	perm := r.Perm(n + 1)
	l := make([]uint64, 0, n+1)
	for _, v := range perm {
		l = append(l, uint64(v)+1)
	}
	if r.Intn(2) == 0 {
		odd := []uint64{0, next - 1, next, next + 1, most, most - 1, math.MaxUint64, uint64(r.Intn(n + 2))}
		l[r.Intn(n+1)] = odd[r.Intn(len(odd))]
	}
	return of(l[0], next, l[1:]...)
}
