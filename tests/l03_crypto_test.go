package tests

import (
	"bytes"
	"math"
	"math/big"
	"slices"
	"strings"
	"testing"

	"loop.example/g00958/impl"
)

var modulus = big.NewInt(impl.Modulus)

// hashByBig is the hash as the document defines it, without a limit to the
// numbers on the way.
func hashByBig(values []int) int {
	h := big.NewInt(11)
	for _, v := range values {
		h.Mul(h, big.NewInt(1000003))
		h.Add(h, new(big.Int).Mod(big.NewInt(int64(v)), modulus))
		h.Add(h, big.NewInt(13))
		h.Mod(h, modulus)
	}
	return int(h.Int64())
}

func keyedByBig(key int, values []int) int {
	return hashByBig(slices.Concat([]int{key}, values, []int{key}))
}

// extremes are integers at which a hash could leave its range.
var extremes = []int{
	0, 1, 13, impl.Modulus - 14, impl.Modulus - 13, impl.Modulus - 1, impl.Modulus, impl.Modulus + 1, 2*impl.Modulus - 1, 2 * impl.Modulus,
	impl.MaxValue, math.MaxInt - impl.Modulus, math.MaxInt - 13, math.MaxInt - 1, math.MaxInt,
	-1, -13, -impl.Modulus + 1, -impl.Modulus, -impl.Modulus - 1, -2 * impl.Modulus, -impl.MaxValue, math.MinInt + 1, math.MinInt,
}

// keys has ordinary keys, the least and the greatest valid one, and invalid
// ones, for which everything but IsValidKey is defined likewise.
var keys = append([]int{3, 77, 123456789}, extremes...)

func TestHash(t *testing.T) {
	cases := []struct {
		values []int
		want   int
	}{
		{nil, 11},
		{[]int{}, 11},
		{[]int{0}, 11000046},
		{[]int{1}, 11000047},
		{[]int{5}, 11000051},
		{[]int{-1}, 11000045},
		{[]int{impl.Modulus - 1}, 11000045},
		{[]int{impl.Modulus}, 11000046},
		{[]int{impl.Modulus + 1}, 11000047},
		{[]int{2*impl.Modulus + 5}, 11000051},
		{[]int{-impl.Modulus}, 11000046},
		{[]int{-impl.Modulus - 1}, 11000045},
		{[]int{math.MinInt}, 11000044},
		{[]int{math.MaxInt}, 11000047},
		{[]int{0, 0}, 667760217},
		{[]int{5, 300}, 672760532},
		{[]int{300, 5}, 967761122},
		{[]int{1, 2, 3}, 1460866530},
		{[]int{impl.MaxValue, -impl.MaxValue}, 339527524},
	}
	for _, c := range cases {
		if got := impl.Hash(c.values); got != c.want {
			t.Errorf("Hash(%v) is %d, not %d", c.values, got, c.want)
		}
	}
}

func TestHashStaysInItsRange(t *testing.T) {
	for _, a := range extremes {
		for _, b := range extremes {
			for _, values := range [][]int{{a}, {a, b}, {a, b, a}, {0, a, b, b, a}} {
				got := impl.Hash(values)
				if got != hashByBig(values) || got < 0 || got >= impl.Modulus {
					t.Errorf("Hash(%v) is %d", values, got)
				}
			}
		}
	}
	long := slices.Repeat(extremes, 1000)
	if got := impl.Hash(long); got != hashByBig(long) {
		t.Errorf("the hash of a long list is %d", got)
	}
}

func TestKeyedHash(t *testing.T) {
	cases := []struct {
		key    int
		values []int
		want   int
	}{
		{0, nil, 667760217},
		{0, []int{}, 667760217},
		{1, nil, 668760221},
		{3, []int{4}, 20107550},
		{-1, []int{4}, 758141871},
		{-3, []int{4}, 53417208},
		{impl.Modulus - 1, []int{0}, 754141859},
		{impl.Modulus, []int{4}, 36762379},
		{math.MaxInt, []int{4}, 1462866534},
		{math.MinInt, []int{4}, 1479521363},
		{77, []int{1}, 322116308},
	}
	for _, c := range cases {
		if got := impl.KeyedHash(c.key, c.values); got != c.want {
			t.Errorf("KeyedHash(%d, %v) is %d, not %d", c.key, c.values, got, c.want)
		}
	}
	for _, key := range keys {
		for _, values := range [][]int{nil, {0}, {5, 300}, {300, 5}, {-1, impl.Modulus}, extremes} {
			got := impl.KeyedHash(key, values)
			if got != keyedByBig(key, values) || got < 0 || got >= impl.Modulus {
				t.Errorf("KeyedHash(%d, %v) is %d", key, values, got)
			}
		}
	}
}

func TestKeyedHashDependsOnEachValue(t *testing.T) {
	changes := []int{1, 2, 13, 256, 1000003, impl.Modulus / 2, impl.Modulus - 2, impl.Modulus - 1}
	for _, key := range []int{1, 77, impl.Modulus - 1, 0, -5, math.MaxInt, math.MinInt} {
		for _, values := range [][]int{{0}, {5}, {5, 300}, {-7, 0, impl.Modulus, -impl.Modulus, impl.MaxValue}} {
			before := impl.KeyedHash(key, values)
			for i := range values {
				for _, change := range changes {
					for _, signed := range []int{change, -change} {
						changed := slices.Clone(values)
						changed[i] += signed
						if impl.KeyedHash(key, changed) == before {
							t.Errorf("KeyedHash(%d, %v) is that of %v", key, changed, values)
						}
					}
				}
				for _, change := range []int{impl.Modulus, -impl.Modulus, 1000 * impl.Modulus} {
					changed := slices.Clone(values)
					changed[i] += change
					if impl.KeyedHash(key, changed) != before {
						t.Errorf("KeyedHash(%d, %v) is not that of %v", key, changed, values)
					}
				}
			}
		}
	}
}

func TestHashesLeaveTheirArguments(t *testing.T) {
	for _, list := range [][]int{nil, {5}, extremes} {
		values, unchanged := roomy(list)
		impl.Hash(values)
		impl.KeyedHash(7, values)
		impl.EqualInts(values, []int{5, 99})
		impl.EqualInts([]int{5, 99}, values)
		if !unchanged() {
			t.Errorf("a hash or a comparison writes into %v or behind it", list)
		}
	}
}

func TestIsValidKey(t *testing.T) {
	for _, key := range []int{1, 2, 77, 1 << 30, impl.Modulus - 2, impl.Modulus - 1} {
		if !impl.IsValidKey(key) {
			t.Errorf("the key %d is not valid", key)
		}
	}
	for _, key := range []int{0, -1, -77, -impl.Modulus, -impl.Modulus + 1, impl.Modulus, impl.Modulus + 1, 1<<32 + 1, math.MaxInt, math.MinInt} {
		if impl.IsValidKey(key) {
			t.Errorf("the key %d is valid", key)
		}
	}
}

func TestBytesToInts(t *testing.T) {
	cases := []struct {
		b    []byte
		want []int
	}{
		{nil, []int{0}},
		{[]byte{}, []int{0}},
		{[]byte{0}, []int{1, 0}},
		{[]byte{7}, []int{1, 7}},
		{[]byte{255}, []int{1, 255}},
		{[]byte{0, 255}, []int{2, 0, 255}},
		{[]byte{255, 128, 127, 0}, []int{4, 255, 128, 127, 0}},
		{[]byte("é"), []int{2, 195, 169}},
	}
	for _, c := range cases {
		b, unchanged := roomy(c.b)
		if got := impl.BytesToInts(b); !slices.Equal(got, c.want) {
			t.Errorf("BytesToInts(%v) is %v, not %v", c.b, got, c.want)
		}
		if !unchanged() {
			t.Errorf("BytesToInts writes into %v or behind it", c.b)
		}
	}
	long := bytes.Repeat([]byte{200}, 1000)
	if got := impl.BytesToInts(long); !slices.Equal(got, append([]int{1000}, slices.Repeat([]int{200}, 1000)...)) {
		t.Errorf("BytesToInts of %d bytes has %d integers", len(long), len(got))
	}
}

// texts are byte strings to encrypt and decrypt, the last one with indices
// that are not bytes themselves.
var texts = [][]byte{
	nil, {}, {0}, {255}, []byte("hello"), {0, 0, 0}, {255, 255, 255}, {255, 128, 127, 1, 0}, bytes.Repeat([]byte{0, 1, 127, 128, 255}, 200),
}

func TestCipherBytes(t *testing.T) {
	if got := impl.Encrypt(77, []byte("hello")); !bytes.Equal(got, []byte{249, 57, 131, 198, 12}) {
		t.Errorf("Encrypt(77, hello) is %v", got)
	}
	if got := impl.Encrypt(-9, make([]byte, 8)); !bytes.Equal(got, []byte{198, 9, 76, 143, 210, 21, 88, 155}) {
		t.Errorf("Encrypt(-9, zeros) is %v", got)
	}
	for _, key := range keys {
		for _, text := range texts {
			sums, differences := []byte{}, []byte{}
			for i, c := range text {
				stream := keyedByBig(key, []int{i})
				sums = append(sums, byte((int(c)+stream)%256))
				differences = append(differences, byte(((int(c)-stream)%256+256)%256))
			}
			if got := impl.Encrypt(key, text); !bytes.Equal(got, sums) {
				t.Errorf("Encrypt(%d, %v) is %v, not %v", key, text, got, sums)
			}
			if got := impl.Decrypt(key, text); !bytes.Equal(got, differences) {
				t.Errorf("Decrypt(%d, %v) is %v, not %v", key, text, got, differences)
			}
		}
	}
}

func TestDecryptionInvertsEncryption(t *testing.T) {
	long := bytes.Repeat([]byte("a long text that goes on \x00\xff"), 3000)
	for _, key := range keys {
		for _, text := range append(slices.Clone(texts), long) {
			if got := impl.Decrypt(key, impl.Encrypt(key, text)); !bytes.Equal(got, text) {
				t.Errorf("with the key %d, %d bytes are not decrypted", key, len(text))
			}
			if got := impl.Encrypt(key, impl.Decrypt(key, text)); !bytes.Equal(got, text) {
				t.Errorf("with the key %d, %d bytes are not encrypted again", key, len(text))
			}
		}
	}
}

func TestCiphersLeaveTheirArguments(t *testing.T) {
	ciphers := map[string]func(int, []byte) []byte{"Encrypt": impl.Encrypt, "Decrypt": impl.Decrypt}
	for name, cipher := range ciphers {
		for _, key := range keys {
			for _, text := range texts {
				b, unchanged := roomy(text)
				got := cipher(key, b)
				if !unchanged() {
					t.Errorf("%s with the key %d writes into %v or behind it", name, key, text)
				}
				if sharesMemory(got, b) {
					t.Errorf("%s of %v shares memory with its argument", name, text)
				}
				if again := cipher(key, b); !bytes.Equal(again, got) || sharesMemory(again, got) {
					t.Errorf("%s of %v is another the second time, or the same memory", name, text)
				}
			}
		}
	}
}

// labels has texts that are ASCII, that are not, and that are not even UTF-8.
var labels = []string{"", "a", "ab", "ba", "label", "\x00", "\x00\x00", "é", "äß", "日本", "\xff", "\xff\x00\x80", strings.Repeat("long \xfe", 100)}

// intsOf is what the bytes of a label are hashed as.
func intsOf(label string) []int {
	values := []int{len(label)}
	for i := 0; i < len(label); i++ {
		values = append(values, int(label[i]))
	}
	return values
}

func TestDeriveFromString(t *testing.T) {
	cases := []struct {
		key   int
		label string
		want  int
	}{
		{5, "", 720832201},
		{0, "", 32762367},
		{5, "ab", 1905036959},
		{5, "äß", 361469930},
		{5, "\xff\x00\x80", 1223753567},
		{-7, "label", 1334340456},
		{impl.Modulus, "x", 2000872996},
	}
	for _, c := range cases {
		if got := impl.DeriveFromString(c.key, c.label); got != c.want {
			t.Errorf("DeriveFromString(%d, %q) is %d, not %d", c.key, c.label, got, c.want)
		}
	}
	for _, key := range keys {
		for _, label := range labels {
			got := impl.DeriveFromString(key, label)
			if got != max(1, keyedByBig(key, intsOf(label))) || got < 1 || got >= impl.Modulus {
				t.Errorf("DeriveFromString(%d, %q) is %d", key, label, got)
			}
		}
	}
}

// keyWithHash finds the key whose keyed hash of the values is wanted: the
// keyed hash is, modulo Modulus, a multiple of the key and a constant.
func keyWithHash(values []int, wanted int) int {
	constant := big.NewInt(int64(keyedByBig(0, values)))
	factor := big.NewInt(int64(keyedByBig(1, values)))
	factor.Sub(factor, constant)
	key := big.NewInt(int64(wanted))
	key.Sub(key, constant)
	key.Mul(key, new(big.Int).ModInverse(factor, modulus))
	return int(key.Mod(key, modulus).Int64())
}

func TestDerivedKeysAreNeverZero(t *testing.T) {
	for _, label := range labels {
		zero := keyWithHash(intsOf(label), 0)
		for _, key := range []int{zero, zero + impl.Modulus, zero - impl.Modulus} {
			if h := impl.KeyedHash(key, intsOf(label)); h != 0 {
				t.Errorf("the keyed hash of %q with %d is %d", label, key, h)
			}
			if got := impl.DeriveFromString(key, label); got != 1 {
				t.Errorf("DeriveFromString(%d, %q) is %d, not 1", key, label, got)
			}
		}
		for _, wanted := range []int{1, 2, impl.Modulus - 1} {
			key := keyWithHash(intsOf(label), wanted)
			if got := impl.DeriveFromString(key, label); got != wanted {
				t.Errorf("DeriveFromString(%d, %q) is %d, not %d", key, label, got, wanted)
			}
		}
	}
}

func TestEqualInts(t *testing.T) {
	cases := []struct {
		a, b []int
		want bool
	}{
		{nil, nil, true},
		{nil, []int{}, true},
		{[]int{}, nil, true},
		{[]int{}, []int{}, true},
		{[]int{0}, nil, false},
		{nil, []int{0}, false},
		{[]int{0, 0}, []int{0}, false},
		{[]int{0}, []int{0, 0}, false},
		{[]int{5}, []int{5}, true},
		{[]int{5}, []int{-5}, false},
		{[]int{5, 300}, []int{5, 300}, true},
		{[]int{5, 300}, []int{300, 5}, false},
		{[]int{5, 300}, []int{5, 301}, false},
		{[]int{4, 300}, []int{5, 300}, false},
		{[]int{5, 300}, []int{5}, false},
		{[]int{5}, []int{5, 300}, false},
		{[]int{math.MinInt, math.MaxInt}, []int{math.MinInt, math.MaxInt}, true},
		{[]int{1 << 32}, []int{0}, false},
		{[]int{0}, []int{impl.Modulus}, false},
		{[]int{5, 5}, []int{0}, false},
	}
	for _, c := range cases {
		if impl.EqualInts(c.a, c.b) != c.want {
			t.Errorf("EqualInts(%v, %v) is not %t", c.a, c.b, c.want)
		}
	}
}

func TestEqualIntsSeesEachPlace(t *testing.T) {
	if !impl.EqualInts(extremes, slices.Clone(extremes)) {
		t.Error("a list is not equal to its copy")
	}
	for i := range extremes {
		changed := slices.Clone(extremes)
		changed[i] ^= 1
		if impl.EqualInts(extremes, changed) || impl.EqualInts(changed, extremes) {
			t.Errorf("a change at %d is not seen", i)
		}
		if impl.EqualInts(extremes, extremes[:i]) || impl.EqualInts(extremes[:i], extremes) {
			t.Errorf("an end at %d is not seen", i)
		}
	}
	for _, pair := range [][2]int{{5, 99}, {99, 5}} {
		a, _ := roomy([]int{pair[0]})
		if impl.EqualInts(a, pair[:]) || impl.EqualInts(pair[:], a) {
			t.Error("what is behind the end of a list is compared")
		}
	}
}
