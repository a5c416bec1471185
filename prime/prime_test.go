package prime

import (
	"math"
	"math/big"
	"math/rand"
	"strings"
	"testing"

	"domino/api"
	"domino/natural"
)

// nat returns the string of a small number.
func nat(n uint64) api.Nat {
	return natural.Of(n)
}

// number returns the string of a number.
func number(n *big.Int) api.Nat {
	return api.Nat(n.Bytes())
}

// ones returns n bytes 255.
func ones(n int) api.Nat {
	return api.Nat(strings.Repeat("\xff", n))
}

// invalid returns strings that are not canonical.
func invalid() []api.Nat {
	return []api.Nat{"\x00", "\x00\x05", "\x00" + ones(7), "\x00" + ones(128), "\x01" + ones(128), ones(129), ones(1000)}
}

// sieve reports for each number less than limit whether it is prime.
func sieve(limit int) []bool {
	primes := make([]bool, limit)
	for n := 2; n < limit; n++ {
		primes[n] = true
	}
	for n := 2; n < limit; n++ {
		for m := 2 * n; primes[n] && m < limit; m += n {
			primes[m] = false
		}
	}
	return primes
}

// hard returns numbers that are hard to tell from primes, or beside the limits of words.
func hard() []uint64 {
	return []uint64{
		// products that are strong probable primes to many of the first primes
		2047, 1373653, 25326001, 3215031751, 2152302898747, 3474749660383, 341550071728321, 3825123056546413051,
		// Carmichael numbers, squares and products of primes that are near each other
		561, 1105, 1729, 41041, 825265, 9, 25, 49, 1369, 1681, 4294967291 * 4294967291, 4294967291 * 4294967279, 1000003 * 1000003,
		// primes
		4294967291, 4294967311, 1000000007, 1 << 61, 1<<61 - 1, 9223372036854775783, 18446744073709551557, 18446744073709551533,
		math.MaxUint64, math.MaxUint64 - 1, 1 << 63, 1<<63 - 1, 1<<32 + 1, 1<<32 - 1, 1 << 32, 1<<63 - 25,
	}
}

// checkIs compares Is and Safe with package big, which makes no errors below 2^64.
func checkIs(t *testing.T, n uint64) {
	t.Helper()
	prime := func(n uint64) bool { return new(big.Int).SetUint64(n).ProbablyPrime(0) }
	if got, err := Is(nat(n)); got != prime(n) || err != api.OK {
		t.Fatalf("Is(%d): got %v and error %d", n, got, err)
	}
	safe := n > 2 && prime(n) && prime((n-1)/2)
	if got, err := Safe(nat(n)); got != safe || err != api.OK {
		t.Fatalf("Safe(%d): got %v and error %d", n, got, err)
	}
}

// P4.1.
func TestIsAndSafe(t *testing.T) {
	for n, wanted := range sieve(20000) {
		if got, err := Is(nat(uint64(n))); got != wanted || err != api.OK {
			t.Fatalf("Is(%d): got %v and error %d", n, got, err)
		}
		checkIs(t, uint64(n))
	}
	for _, n := range hard() {
		checkIs(t, n)
	}
	for n := uint64(math.MaxUint64); n > math.MaxUint64-300; n-- {
		checkIs(t, n)
	}
	r := rand.New(rand.NewSource(1))
	for range 3000 {
		checkIs(t, r.Uint64()>>r.Intn(64)|1)
	}
}

// P4.1.
func TestSafeExamples(t *testing.T) {
	for n, wanted := range map[uint64]bool{0: false, 1: false, 2: false, 3: false, 5: true, 7: true, 9: false, 11: true, 13: false, 15: false, 17: false, 23: true, 47: true, 59: true, 61: false, 4294967087: true} {
		if got, err := Safe(nat(n)); got != wanted || err != api.OK {
			t.Errorf("Safe(%d): got %v and error %d", n, got, err)
		}
	}
}

// P4.1 and P4.2.
func TestErrors(t *testing.T) {
	refused := func(what string, result bool, err, wanted api.Errno) {
		t.Helper()
		if result || err != wanted {
			t.Errorf("%s: got a result %v and error %d, want error %d", what, result, err, wanted)
		}
	}
	all := func(n api.Nat, wanted api.Errno) {
		t.Helper()
		ok, err := Is(n)
		refused("Is", ok, err, wanted)
		ok, err = Safe(n)
		refused("Safe", ok, err, wanted)
		next, err := Next(n)
		refused("Next", next != "", err, wanted)
		list, err := Factors(n)
		refused("Factors", len(list) > 0, err, wanted)
	}
	for _, bad := range invalid() {
		all(bad, api.ErrForm)
		for _, other := range []api.Nat{"", "\x02", "\x05", bad, ones(128)} {
			ok, err := Strong(bad, other)
			refused("Strong", ok, err, api.ErrForm)
			ok, err = Strong(other, bad)
			refused("Strong", ok, err, api.ErrForm)
		}
	}
	for _, n := range []api.Nat{"\x01\x00\x00\x00\x00\x00\x00\x00\x00", "\x01\x00\x00\x00\x00\x00\x00\x00\x0d", ones(9), ones(128)} {
		all(n, api.ErrLong)
	}
	for _, n := range []uint64{18446744073709551557, math.MaxUint64 - 1, math.MaxUint64} {
		next, err := Next(nat(n))
		refused("Next", next != "", err, api.ErrLong)
	}
	for _, n := range []uint64{1 << 40, 1<<40 + 1, 1 << 41, math.MaxUint64} {
		list, err := Factors(nat(n))
		refused("Factors", len(list) > 0, err, api.ErrLong)
	}
	list, err := Factors("")
	refused("Factors of 0", len(list) > 0, err, api.ErrZero)
}

// isStrong decides by the definition whether n is a strong probable prime to the base a.
func isStrong(n, a *big.Int) bool {
	one, two := big.NewInt(1), big.NewInt(2)
	if n.Cmp(two) == 0 {
		return true
	}
	if n.Bit(0) == 0 || n.Cmp(one) <= 0 {
		return false
	}
	if new(big.Int).Mod(a, n).Sign() == 0 {
		return true
	}
	last := new(big.Int).Sub(n, one)
	s := last.TrailingZeroBits()
	d := new(big.Int).Rsh(last, s)
	if new(big.Int).Exp(a, d, n).Cmp(one) == 0 {
		return true
	}
	for i := range s {
		if new(big.Int).Exp(a, new(big.Int).Lsh(d, i), n).Cmp(last) == 0 {
			return true
		}
	}
	return false
}

// checkStrong compares Strong with the definition.
func checkStrong(t *testing.T, n, a *big.Int) {
	t.Helper()
	if got, err := Strong(number(n), number(a)); got != isStrong(n, a) || err != api.OK {
		t.Fatalf("Strong(%v, %v): got %v and error %d", n, a, got, err)
	}
}

// P4.1.
func TestStrong(t *testing.T) {
	for n := range int64(400) {
		for a := range int64(60) {
			checkStrong(t, big.NewInt(n), big.NewInt(a))
		}
		checkStrong(t, big.NewInt(n), big.NewInt(n))
		checkStrong(t, big.NewInt(n), big.NewInt(2*n-1+n%2))
	}
	for _, n := range hard() {
		for _, a := range []int64{0, 1, 2, 3, 5, 37, 41} {
			checkStrong(t, new(big.Int).SetUint64(n), big.NewInt(a))
		}
	}
}

// P4.1: numbers of any size.
func TestStrongOfLongNumbers(t *testing.T) {
	one := big.NewInt(1)
	power := func(e uint) *big.Int { return new(big.Int).Lsh(one, e) }
	mersenne := func(e uint) *big.Int { return new(big.Int).Sub(power(e), one) }
	list := []*big.Int{
		mersenne(127), mersenne(521), mersenne(607), mersenne(61), mersenne(67), mersenne(1023), mersenne(1024),
		new(big.Int).Add(power(1023), one), new(big.Int).Add(power(512), one), new(big.Int).Add(power(64), one), power(1000),
		new(big.Int).Mul(mersenne(127), mersenne(127)), new(big.Int).Add(power(64), big.NewInt(13)),
	}
	r := rand.New(rand.NewSource(2))
	for range 40 {
		list = append(list, new(big.Int).Rand(r, power(uint(64+r.Intn(961)))))
	}
	for _, n := range list {
		for _, a := range []*big.Int{big.NewInt(0), big.NewInt(2), big.NewInt(3), n, mersenne(1024), new(big.Int).Rand(r, power(1024))} {
			checkStrong(t, n, a)
		}
	}
	if ok, err := Strong(number(mersenne(521)), nat(3)); !ok || err != api.OK {
		t.Errorf("2^521 - 1 to the base 3: got %v and error %d", ok, err)
	}
	for n, wanted := range map[uint64]bool{2: true, 3: false} {
		if ok, err := Strong(nat(2047), nat(n)); ok != wanted || err != api.OK {
			t.Errorf("2047 to the base %d: got %v and error %d", n, ok, err)
		}
	}
}

// P4.2 and P4.3.
func TestNext(t *testing.T) {
	primes := sieve(20000)
	wanted := 2
	for n := range 19900 {
		if wanted <= n {
			wanted = n + 1
			for !primes[wanted] {
				wanted++
			}
		}
		if got, err := Next(nat(uint64(n))); got != nat(uint64(wanted)) || err != api.OK {
			t.Fatalf("Next(%d): got %x and error %d, want %d", n, got, err, wanted)
		}
	}
	r := rand.New(rand.NewSource(3))
	for range 50 {
		n := r.Uint64() >> (1 + r.Intn(60))
		next, err := Next(nat(n))
		small, ok := natural.Small(next)
		if err != api.OK || !ok || small <= n || !new(big.Int).SetUint64(small).ProbablyPrime(0) {
			t.Fatalf("Next(%d): got %x and error %d", n, next, err)
		}
		for between := n + 1; between < small; between++ {
			if new(big.Int).SetUint64(between).ProbablyPrime(0) {
				t.Fatalf("Next(%d) is %d, but %d is prime", n, small, between)
			}
		}
	}
	if got, err := Next(nat(18446744073709551556)); got != nat(18446744073709551557) || err != api.OK {
		t.Errorf("the greatest prime below 2^64: got %x and error %d", got, err)
	}
}

// checkFactors checks that the factors are primes in ascending order, and that their product is n.
func checkFactors(t *testing.T, n uint64) {
	t.Helper()
	list, err := Factors(nat(n))
	product, last := uint64(1), uint64(2)
	for _, f := range list {
		p, ok := natural.Small(f)
		if !ok || p < last || !new(big.Int).SetUint64(p).ProbablyPrime(0) {
			t.Fatalf("Factors(%d): got %x", n, list)
		}
		product *= p
		last = p
	}
	if product != n || err != api.OK {
		t.Fatalf("Factors(%d): got %x and error %d", n, list, err)
	}
}

// P4.2 and P4.3.
func TestFactors(t *testing.T) {
	for n := uint64(1); n < 5000; n++ {
		checkFactors(t, n)
	}
	for _, n := range []uint64{1<<40 - 1, 1<<40 - 87, 1 << 39, 1048573 * 1048573, 1048573 * 1048571, 1<<32 + 1, 1<<32 - 1, 1000003 * 1000003, 999983 * 999983, 2 * 549755813881} {
		checkFactors(t, n)
	}
	r := rand.New(rand.NewSource(4))
	for range 100 {
		checkFactors(t, 1+r.Uint64()>>(24+r.Intn(40)))
	}
	list, err := Factors(nat(1))
	if len(list) != 0 || err != api.OK {
		t.Errorf("Factors(1): got %x and error %d", list, err)
	}
	list, err = Factors(nat(360))
	if len(list) != 6 || err != api.OK || strings.Join([]string{string(list[0]), string(list[1]), string(list[2]), string(list[3]), string(list[4]), string(list[5])}, " ") != "\x02 \x02 \x02 \x03 \x03 \x05" {
		t.Errorf("Factors(360): got %x and error %d", list, err)
	}
}

// P4.3: a prime is a strong probable prime to every base.
func TestPrimesAreStrong(t *testing.T) {
	for n, isPrime := range sieve(300) {
		for a := range uint64(300) {
			if ok, err := Strong(nat(uint64(n)), nat(a)); isPrime && !ok || err != api.OK {
				t.Fatalf("Strong(%d, %d): got %v and error %d", n, a, ok, err)
			}
		}
	}
	r := rand.New(rand.NewSource(5))
	for range 100 {
		p, _ := Next(nat(r.Uint64() >> (1 + r.Intn(60))))
		if ok, err := Strong(p, nat(r.Uint64())); !ok || err != api.OK {
			t.Fatalf("the prime %x is not strong: error %d", p, err)
		}
	}
}

// A function that yields may be left before its end.
func TestFactorsCanBeLeft(t *testing.T) {
	for p := range factors(360) {
		if p != 2 {
			t.Errorf("the first factor of 360 is %d", p)
		}
		break
	}
}
