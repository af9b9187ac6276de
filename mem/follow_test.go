package mem_test

import (
	"fmt"
	"maps"
	"math"
	"math/rand"
	"slices"
	"strings"
	"testing"

	"fascicle/api"
	"fascicle/mem"
)

// plain is what a mem must have: the pair of each key that was put last.
type plain map[string]api.Pair

func (l plain) put(p api.Pair) { l[p.Key] = p }

// pairs has them in order.
func (l plain) pairs() []api.Pair { return inOrder(slices.Collect(maps.Values(l))) }

// anyKey is a key of few bytes of few kinds, so that many are the same, and many are beginnings of others.
func anyKey(r *rand.Rand) string {
	b := make([]byte, 1+r.Intn(4))
	for i := range b {
		b[i] = "\x00\x01ab\xfe\xff"[r.Intn(6)]
	}
	return string(b)
}

// anyBound is any key, or no byte, or a text longer than a key may be.
func anyBound(r *rand.Rand) string {
	switch r.Intn(10) {
	case 0, 1:
		return ""
	case 2:
		return anyKey(r) + strings.Repeat("a", api.MaxKey)
	}
	return anyKey(r)
}

// anyPair is one that may be.
func anyPair(r *rand.Rand) api.Pair {
	if r.Intn(4) == 0 {
		return gone(anyKey(r))
	}
	return pair(anyKey(r), letters(r.Intn(9)))
}

// wrong is a pair that may not be.
func wrong(r *rand.Rand) api.Pair {
	switch r.Intn(4) {
	case 0:
		return pair("", "1")
	case 1:
		return pair(strings.Repeat("a", api.MaxKey+1), "")
	case 2:
		return pair(anyKey(r), strings.Repeat("a", api.MaxVal+1))
	}
	return api.Pair{Key: anyKey(r), Value: "1", Gone: true}
}

// P9.1 to P9.3: long mixtures of all calls of two mems, each against a plain model.
func TestMixtures(t *testing.T) {
	for seed := range 40 {
		r := rand.New(rand.NewSource(int64(seed)))
		mems, models := [2]*mem.Mem{mem.New(), mem.New()}, [2]plain{{}, {}}
		for range 1000 {
			i := r.Intn(2)
			m, model := mems[i], models[i]
			switch r.Intn(400) {
			case 0:
				m.Clear()
				clear(model)
			case 1, 2, 3, 4:
				p := wrong(r)
				if e := m.Put(p); e != api.ErrArg {
					t.Fatalf("Put of %s: %v", shown(p), e)
				}
			default:
				p := anyPair(r)
				puts(t, m, p)
				model.put(p)
			}
			asks(t, r, m, model)
			if r.Intn(50) == 0 {
				holds(t, mems[0], models[0].pairs()...)
				holds(t, mems[1], models[1].pairs()...)
			}
		}
	}
}

// asks fails the test unless m answers of some key, and of some bounds, what the model has.
func asks(t *testing.T, r *rand.Rand, m *mem.Mem, model plain) {
	t.Helper()
	key := anyBound(r)
	if want, is := model[key]; is {
		gets(t, m, want)
	} else {
		misses(t, m, key)
	}
	if r.Intn(10) == 0 {
		from, to, most := anyBound(r), anyBound(r), r.Intn(len(model)+3)-1
		scans(t, m, from, to, most, within(model.pairs(), from, to, most)...)
	}
}

// orders has the numbers from 0 to below n in several orders.
func orders(n int) map[string][]int {
	var rising, ends, rows []int
	for i := range n {
		rising = append(rising, i)
		if i%2 == 0 {
			ends = append(ends, i/2)
		} else {
			ends = append(ends, n-1-i/2)
		}
	}
	const row = 97
	for i := range row {
		for k := i; k < n; k += row {
			rows = append(rows, k)
		}
	}
	return map[string][]int{
		"rising":          rising,
		"falling":         backwards(rising),
		"from both ends":  ends,
		"from the middle": backwards(ends),
		"in rows":         rows,
		"in falling rows": backwards(rows),
		"mixed":           rand.New(rand.NewSource(int64(n))).Perm(n),
	}
}

func backwards(l []int) []int {
	l = slices.Clone(l)
	slices.Reverse(l)
	return l
}

// P9.1 to P9.3: many keys, each of them put twice, in each order: also those in which a tree that is left to itself gets as high as there are keys.
func TestMany(t *testing.T) {
	for n, each := range map[int]int{100: 1, 3000: 500, 100000: 100000} {
		for name, order := range orders(n) {
			m, model := laid(t), plain{}
			for i, k := range slices.Concat(order, order) {
				p := pair(fmt.Sprintf("%07d", k), fmt.Sprint(k%100))
				if k%7 == 3 {
					p = gone(p.Key)
				}
				if i < n {
					p = pair(p.Key, fmt.Sprint("first", k))
				}
				puts(t, m, p)
				model.put(p)
				if i%each == 0 {
					holds(t, m, model.pairs()...)
				}
			}
			want := model.pairs()
			if len(want) != n {
				t.Fatalf("%s: %d keys, not %d", name, len(want), n)
			}
			holds(t, m, want...)
			middle := want[n/2].Key
			scans(t, m, middle, "", 10, want[n/2:n/2+10]...)
			scans(t, m, "", middle, math.MaxInt, want[:n/2]...)
			goesOn(t, m, "", "", 1+n/100, want)
		}
	}
}

// P9.2, P9.3: many pairs, gone through one by one, and two by two between bounds.
func TestOneByOne(t *testing.T) {
	m := laid(t)
	var want []api.Pair
	for k := range 100000 {
		p := pair(fmt.Sprintf("%07d", k), "")
		want = append(want, p)
		puts(t, m, p)
	}
	goesOn(t, m, "", "", 1, want)
	goesOn(t, m, want[3].Key, want[99999].Key, 2, want[3:99999])
}
