package seal_test

import (
	"math"
	"slices"
	"strings"
	"testing"

	"planisphere/api"
	"planisphere/digest"
	"planisphere/seal"
)

// public returns a public key that must exist.
func public(t *testing.T, secret string, height int) string {
	t.Helper()
	key, err := seal.Public(secret, height)
	if err != api.OK {
		t.Fatalf("Public(%q, %d): error %d", secret, height, err)
	}
	return key
}

// sign returns a seal that must exist.
func sign(t *testing.T, secret string, height, index int, message string) api.Seal {
	t.Helper()
	s, err := seal.Sign(secret, height, index, message)
	if err != api.OK {
		t.Fatalf("Sign(%q, %d, %d, %q): error %d", secret, height, index, message, err)
	}
	return s
}

// P2.1, B1: public keys that were computed by another program.
func TestPublicKnown(t *testing.T) {
	for _, test := range []struct {
		secret string
		height int
		want   string
	}{
		{"", 0, "56713122d2ffd5a7"},
		{"secret", 0, "b72f6cfc252431f5"},
		{"secret", 1, "8d4b9155948c0ba6"},
		{"secret", 3, "0a4faaf255614d9e"},
		{"secret", 8, "f2be982efd1c295e"},
		{"\xff\x00", 2, "006eaec564c1df0e"},
		{strings.Repeat("secret", 100), 4, "24b299ce86ba9e9c"},
	} {
		if got := public(t, test.secret, test.height); got != test.want {
			t.Errorf("Public(%q, %d) = %s, want %s", test.secret, test.height, got, test.want)
		}
	}
}

// P2.1, B1: public keys of all heights, as the chapter's words say.
func TestPublicPlain(t *testing.T) {
	for _, secret := range someSecrets() {
		for height := range 4 {
			if got, want := public(t, secret, height), plainTree(secret, height, 0); got != want {
				t.Errorf("Public(%q, %d) = %s, want %s", secret, height, got, want)
			}
		}
	}
	for height := 4; height <= 8; height++ {
		if got, want := public(t, "secret", height), plainTree("secret", height, 0); got != want {
			t.Errorf("Public of height %d = %s, want %s", height, got, want)
		}
	}
}

// P2.1, B1: heights that are not possible.
func TestPublicErrors(t *testing.T) {
	for _, height := range []int{-1, -2, -64, 9, 10, 62, 63, 64, 256, math.MaxInt, math.MinInt} {
		for _, secret := range []string{"", "secret"} {
			if key, err := seal.Public(secret, height); key != "" || err != api.ErrArg {
				t.Errorf("Public(%q, %d) = %q, error %d", secret, height, key, err)
			}
		}
	}
}

// P2.1, B2: seals that were computed by another program.
func TestSignKnown(t *testing.T) {
	for _, test := range []struct {
		secret        string
		height, index int
		message       string
		sig, path     string
	}{
		{"", 0, 0, "",
			"93ec65e6dcdedcfc f48e364c9de59c67 62d4abff64fc8ed7 65829fa0846cf4f3 9f755a5ff415380b 33703cf6a0c32229 20c154517de48bb5 ed2454234c9f6358 a5d9fb283539c594 a2c269f487676fbd de57c4fe9bdfe10b 48858c383b3b19ed 77d7cfde46ebc747 65f60b71685af0b3 5d09c3650658c185 779b8f99281abb2d 4bb623fe4020c58f cb1d94a3accac26b",
			""},
		{"secret", 2, 1, "message",
			"4c4b088f629d4e76 b15fa5530690931c d9d10ba72be8df06 c25d35a26d582309 d9547f8be11d1f37 283bdb61c5fe7543 299c018ddc470eb9 a82a9c78a4f4f1d1 2636e09e87d73a89 15326cb77a121b33 9049353f4bc28d8d 6113258575c89b14 f2b4d711d75bf85c f488401aea5f1b57 98dcd694cb3d5778 ad5fe4d41a27dfe5 d970eb978b91340b 5617044a314b7cd1",
			"b72f6cfc252431f5 8413c5d9cc906606"},
		{"secret", 8, 255, "\x00\xff",
			"3ac20b002f3d965a a37d3fdec4694681 9250814800bce79a eee8304f015852f9 4d6b2b6a08f744a0 f29d430de954f48c f9771c3e7fdb3cf6 02b5109490a3c1ca 36700594b7fdfcab bbcc713efb193c1f b4dd3d19e3d44204 cf4f848da8e127e8 9f1a619fc4dcb7e3 89f06aea2cd4510f ec1e2fec2cb7657d a179e31df574ba57 8a0c523ef7ffa854 a1abed2b8275e194",
			"ee35f1380c0d9caa 0d594c7fb570deab d974d831db35e0ee 1733f8c55828f185 c4b02e3b45d25325 857d6a639aac419c 3a3685049fd8a626 65c3b766a5b25ce9"},
		{"s", 1, 0, "a longer message, of some words",
			"a83b260079cc1e3b fb5c688f7dcbe0f9 16b2018a21e0f082 1f61b8b0daa3ef47 fae6720d5f502b3b 332e201bc7fe65fc 5f729d0991102067 8fe8326ec622283a bf21fcd3912a50ff 62a80931ccca5253 5cba31d2457d5411 1b0dfc2e162de463 4ea6e6290139debc 6470d7552e111e6d 1380e29da8bd4a9a 888164cc1a02e74c 6b1c4b1eca351e9f 54021e804b4d2cf1",
			"cc668ff62bab65cf"},
	} {
		want := api.Seal{Index: test.index, Sig: strings.Fields(test.sig), Path: strings.Fields(test.path)}
		if got := sign(t, test.secret, test.height, test.index, test.message); !equalSeals(got, want) {
			t.Errorf("Sign(%q, %d, %d, %q) = %v, want %v", test.secret, test.height, test.index, test.message, got, want)
		}
	}
}

// P2.1, B2: seals of all indices, as the chapter's words say.
func TestSignPlain(t *testing.T) {
	for _, secret := range []string{"", "secret", "\xff\x00"} {
		for height := range 4 {
			for index := range 1 << height {
				for _, message := range []string{"", "message", withDigest(0)} {
					got, want := sign(t, secret, height, index, message), plainSeal(secret, height, index, message)
					if !equalSeals(got, want) {
						t.Errorf("Sign(%q, %d, %d, %q) = %v, want %v", secret, height, index, message, got, want)
					}
				}
			}
		}
	}
	for _, message := range someMessages() {
		if got, want := sign(t, "s", 1, 1, message), plainSeal("s", 1, 1, message); !equalSeals(got, want) {
			t.Errorf("the seal of %q = %v, want %v", message, got, want)
		}
	}
}

// P2.1, B2: where the digits say so, the seal has the starts of chains, or their ends. The checksum of sixteen digits 0 is 15, 0.
func TestSignDigits(t *testing.T) {
	for _, test := range []struct {
		number uint64
		digits [18]int
	}{
		{0, [18]int{16: 15, 17: 0}},
		{1<<64 - 1, [18]int{15, 15, 15, 15, 15, 15, 15, 15, 15, 15, 15, 15, 15, 15, 15, 15, 0, 0}},
		{1<<64 - 2, [18]int{15, 15, 15, 15, 15, 15, 15, 15, 15, 15, 15, 15, 15, 15, 15, 14, 0, 1}},
		{0x0123456789abcdef, [18]int{0, 1, 2, 3, 4, 5, 6, 7, 8, 9, 10, 11, 12, 13, 14, 15, 7, 8}},
		{0x1, [18]int{15: 1, 16: 14, 17: 15}},
		{0xffffffffffffff00, [18]int{15, 15, 15, 15, 15, 15, 15, 15, 15, 15, 15, 15, 15, 15, 0, 0, 1, 14}},
	} {
		got := sign(t, "secret", 1, 1, withDigest(test.number))
		for k, d := range test.digits {
			if want := plainChain(plainStart("secret", 1, k), d); got.Sig[k] != want {
				t.Errorf("%016x: chain %d is not at the link %d", test.number, k, d)
			}
		}
	}
}

// P2.1, B2: heights and indices that are not possible.
func TestSignErrors(t *testing.T) {
	for _, test := range []struct{ height, index int }{
		{-1, 0}, {-1, -1}, {9, 0}, {9, 511}, {64, 0}, {math.MaxInt, 0}, {math.MinInt, 0}, {math.MinInt, math.MinInt}, {math.MaxInt, math.MaxInt},
		{0, 1}, {0, -1}, {1, 2}, {2, 4}, {2, -1}, {2, -4}, {7, 128}, {8, 256}, {8, -1}, {8, -256}, {8, math.MaxInt}, {8, math.MinInt}, {0, math.MaxInt},
	} {
		if got, err := seal.Sign("secret", test.height, test.index, "message"); err != api.ErrArg || !equalSeals(got, api.Seal{}) {
			t.Errorf("Sign with height %d and index %d = %v, error %d", test.height, test.index, got, err)
		}
	}
}

// P2.2: the seals of all keys are accepted.
func TestCorrect(t *testing.T) {
	for height := range 5 {
		key := public(t, "secret", height)
		for index := range 1 << height {
			message := strings.Repeat("m", index)
			if !seal.Verify(key, message, sign(t, "secret", height, index, message)) {
				t.Errorf("height %d, index %d: not accepted", height, index)
			}
		}
	}
	for _, secret := range someSecrets() {
		key := public(t, secret, 2)
		for i, message := range someMessages() {
			if !seal.Verify(key, message, sign(t, secret, 2, i%4, message)) {
				t.Errorf("secret %q, message %q: not accepted", secret, message)
			}
		}
	}
}

// P2.2: the same in the highest tree.
func TestCorrectHigh(t *testing.T) {
	for _, height := range []int{7, 8} {
		key := public(t, "high", height)
		for _, index := range []int{0, 1, 2, 85, 100, 1<<height - 2, 1<<height - 1} {
			if !seal.Verify(key, "message", sign(t, "high", height, index, "message")) {
				t.Errorf("height %d, index %d: not accepted", height, index)
			}
		}
	}
}

// P2.1, B3: a seal is accepted for the root that follows from it, whoever made it.
func TestVerifyAnySeal(t *testing.T) {
	for height := range 9 {
		for _, message := range []string{"", "message", withDigest(0), withDigest(1<<64 - 1)} {
			s := api.Seal{Index: 0x5a >> (8 - height)}
			for k := range 18 {
				s.Sig = append(s.Sig, digest.List([]string{"sig", strings.Repeat("k", k)}))
			}
			for i := range height {
				s.Path = append(s.Path, digest.List([]string{"path", strings.Repeat("i", i)}))
			}
			root := plainRoot(message, s)
			if !seal.Verify(root, message, s) {
				t.Errorf("height %d, message %q: not accepted", height, message)
			}
			for _, other := range []string{"", root[:15], root + "0", digest.Sum(root), strings.ToUpper(root) + " ", s.Sig[0]} {
				if seal.Verify(other, message, s) {
					t.Errorf("height %d, message %q: accepted for %q", height, message, other)
				}
			}
		}
	}
}

// illFormed returns what makes a seal of height 2 ill-formed.
func illFormed() map[string]func(s *api.Seal) {
	other := digest.Sum("other")
	changes := map[string]func(s *api.Seal){
		"no sig":          func(s *api.Seal) { s.Sig = nil },
		"17 sigs":         func(s *api.Seal) { s.Sig = s.Sig[:17] },
		"16 sigs":         func(s *api.Seal) { s.Sig = s.Sig[:16] },
		"19 sigs":         func(s *api.Seal) { s.Sig = append(s.Sig, other) },
		"36 sigs":         func(s *api.Seal) { s.Sig = append(s.Sig, s.Sig...) },
		"9 in path":       func(s *api.Seal) { s.Path = slices.Repeat([]string{other}, 9) },
		"64 in path":      func(s *api.Seal) { s.Path = slices.Repeat([]string{other}, 64) },
		"100 in path":     func(s *api.Seal) { s.Path = slices.Repeat([]string{other}, 100) },
		"index 4":         func(s *api.Seal) { s.Index = 4 },
		"index 5":         func(s *api.Seal) { s.Index = 5 },
		"index 256":       func(s *api.Seal) { s.Index = 256 },
		"index -1":        func(s *api.Seal) { s.Index = -1 },
		"index -3":        func(s *api.Seal) { s.Index = -3 },
		"index max":       func(s *api.Seal) { s.Index = math.MaxInt },
		"index min":       func(s *api.Seal) { s.Index = math.MinInt },
		"index 1, height": func(s *api.Seal) { s.Path, s.Index = nil, 1 },
	}
	for _, text := range []string{"", "x", other[:15], other + "0", "0123456789abcdeF", "0123456789abcdeg", "0123456789abcde\n"} {
		changes["sig 0 "+text] = func(s *api.Seal) { s.Sig[0] = text }
		changes["sig 7 "+text] = func(s *api.Seal) { s.Sig[7] = text }
		changes["sig 17 "+text] = func(s *api.Seal) { s.Sig[17] = text }
		changes["path 0 "+text] = func(s *api.Seal) { s.Path[0] = text }
		changes["path 1 "+text] = func(s *api.Seal) { s.Path[1] = text }
	}
	return changes
}

// P2.1, B3: an ill-formed seal is not accepted, not even for the root that would follow from it.
func TestVerifyIllFormed(t *testing.T) {
	key := public(t, "secret", 2)
	for what, change := range illFormed() {
		for _, message := range []string{"message", withDigest(0), withDigest(1<<64 - 1)} {
			s := sign(t, "secret", 2, 1, message)
			change(&s)
			if seal.Verify(key, message, s) || seal.Verify(plainRoot(message, s), message, s) || seal.Verify("", message, s) {
				t.Errorf("%s: accepted", what)
			}
		}
	}
	if seal.Verify(key, "message", api.Seal{}) || seal.Verify("", "", api.Seal{}) {
		t.Error("the zero seal is accepted")
	}
}

// P2.3: each digit of each text of a seal, and its index, decide.
func TestSoundDigits(t *testing.T) {
	for _, message := range []string{"message", withDigest(0x0123456789abcdef)} {
		key := public(t, "secret", 2)
		s := sign(t, "secret", 2, 1, message)
		for _, l := range [][]string{s.Sig, s.Path} {
			for i, text := range l {
				for at := range text {
					for _, d := range "0123456789abcdef" {
						l[i] = text[:at] + string(d) + text[at+1:]
						if seal.Verify(key, message, s) != (l[i] == text) {
							t.Errorf("with %s for %s: wrong", l[i], text)
						}
					}
				}
				l[i] = text
			}
		}
	}
}

// P2.3: what is accepted for a public key and a message is what Sign returns for its index, however seals are put together.
func TestSoundMixed(t *testing.T) {
	key := public(t, "secret", 2)
	var seals [4]api.Seal
	for i := range seals {
		seals[i] = sign(t, "secret", 2, i, "message")
	}
	for index := range seals {
		for sig := range seals {
			for path := range seals {
				for late := range seals {
					s := api.Seal{Index: index, Sig: seals[sig].Sig, Path: []string{seals[path].Path[0], seals[late].Path[1]}}
					if seal.Verify(key, "message", s) != equalSeals(s, seals[index]) {
						t.Errorf("index %d, sig %d, path %d and %d: wrong", index, sig, path, late)
					}
				}
			}
		}
	}
}

// P2.3: links before and behind those of a seal are not accepted, nor are texts in another order.
func TestSoundOrder(t *testing.T) {
	key := public(t, "secret", 2)
	right := sign(t, "secret", 2, 2, "message")
	for k, d := range plainDigits("message") {
		for link := range 16 {
			s := copySeal(right)
			s.Sig[k] = plainChain(plainStart("secret", 2, k), link)
			if seal.Verify(key, "message", s) != (link == d) {
				t.Errorf("chain %d with the link %d instead of %d: wrong", k, link, d)
			}
		}
		for other := range k {
			s := copySeal(right)
			s.Sig[k], s.Sig[other] = s.Sig[other], s.Sig[k]
			if seal.Verify(key, "message", s) {
				t.Errorf("chains %d and %d exchanged: accepted", other, k)
			}
		}
	}
	s := copySeal(right)
	slices.Reverse(s.Path)
	if seal.Verify(key, "message", s) {
		t.Error("the path backwards: accepted")
	}
}

// P2.3: seals of one height are not accepted for the public key of another one, also if their paths are cut, or if nodes of the tree stand for keys.
func TestSoundHeights(t *testing.T) {
	for height := range 4 {
		key := public(t, "secret", height)
		for other := range 5 {
			for index := range 1 << min(height, other) {
				s := sign(t, "secret", other, index, "message")
				if seal.Verify(key, "message", s) != (other == height) {
					t.Errorf("index %d of height %d for height %d: wrong", index, other, height)
				}
				if other > height && !seal.Verify(key, "message", api.Seal{Index: index, Sig: s.Sig, Path: s.Path[:height]}) {
					t.Errorf("index %d of height %d, cut to %d: not accepted", index, other, height)
				}
			}
		}
	}
	s := sign(t, "secret", 1, 0, "message")
	if seal.Verify(plainNode(public(t, "secret", 1), s.Path[0]), "message", s) {
		t.Error("accepted for a digest above the root")
	}
}

// P2.4: a seal is not accepted for another message.
func TestOtherMessages(t *testing.T) {
	messages := someMessages()
	key := public(t, "secret", 2)
	for _, signed := range messages {
		s := sign(t, "secret", 2, 3, signed)
		for _, message := range messages {
			if seal.Verify(key, message, s) != (message == signed) {
				t.Errorf("the seal of %q for %q: wrong", signed, message)
			}
		}
		if seal.Verify(key, signed+"\x00", s) || seal.Verify(key, signed+" ", s) {
			t.Errorf("the seal of %q is accepted for a longer message", signed)
		}
	}
}

// P2.4: who goes on along the chains of a seal, which is possible without the secret, fails at the checksum.
func TestForged(t *testing.T) {
	key := public(t, "secret", 1)
	for _, test := range []struct{ signed, forged uint64 }{
		{0, 1}, {0, 1 << 60}, {0, 1<<64 - 1}, {0x0123456789abcdef, 0x1123456789abcdef}, {0x0123456789abcdef, 0x123456789abcdeff}, {0xfffffffffffffffe, 0xffffffffffffffff}, {0xefffffffffffffff, 0xffffffffffffffff}, {0x7777777777777777, 0x8888888888888888},
	} {
		signed, forged := withDigest(test.signed), withDigest(test.forged)
		s := sign(t, "secret", 1, 0, signed)
		from, to := plainDigits(signed), plainDigits(forged)
		for k := range s.Sig {
			s.Sig[k] = plainChain(s.Sig[k], max(0, to[k]-from[k]))
			if k < 16 && s.Sig[k] != plainChain(plainStart("secret", 0, k), to[k]) {
				t.Fatalf("%016x: chain %d cannot be gone on to %d", test.signed, k, to[k])
			}
		}
		if seal.Verify(key, forged, s) {
			t.Errorf("the seal of %016x, gone on, is accepted for %016x", test.signed, test.forged)
		}
	}
}

// P2.4 speaks of messages with another digest only: those with the same digest have the same seals.
func TestSameDigest(t *testing.T) {
	const number = 0x0123456789abcdef
	messages := []string{withDigest(number), longWithDigest(number, 0), longWithDigest(number, 1)}
	key := public(t, "secret", 1)
	s := sign(t, "secret", 1, 1, messages[0])
	for _, message := range messages {
		if digest.Sum(message) != "0123456789abcdef" {
			t.Fatalf("%q has another digest", message)
		}
		if !equalSeals(s, sign(t, "secret", 1, 1, message)) || !seal.Verify(key, message, s) {
			t.Errorf("%q has another seal", message)
		}
	}
}

// P2.5: the seals of one secret are not accepted for the public key of another one.
func TestOtherSecrets(t *testing.T) {
	for _, secret := range someSecrets() {
		for index := range 4 {
			s := sign(t, secret, 2, index, "message")
			for _, other := range someSecrets() {
				if other != secret && seal.Verify(public(t, other, 2), "message", s) {
					t.Errorf("the seal %d of %q is accepted for %q", index, secret, other)
				}
			}
		}
	}
}

// P2.5: secrets, indices and chains do not run into each other.
func TestSecretsApart(t *testing.T) {
	s, s1 := sign(t, "s", 4, 12, withDigest(0)), sign(t, "s1", 4, 2, withDigest(0))
	for k := range s.Sig {
		if slices.Contains(s1.Sig, s.Sig[k]) {
			t.Errorf("the chain %d of the key 12 of s is one of the key 2 of s1", k)
		}
	}
	seen := map[string]bool{}
	for index := range 16 {
		for _, text := range sign(t, "s", 4, index, withDigest(0)).Sig {
			seen[text] = true
		}
	}
	if len(seen) != 16*18 {
		t.Errorf("16 seals have %d different texts", len(seen))
	}
}

// P2.6: public keys are digests; seals have 18 digests, and one for each level.
func TestForm(t *testing.T) {
	for height := range 9 {
		if key := public(t, "form", height); !digest.Is(key) {
			t.Errorf("the public key %q", key)
		}
		for _, index := range []int{0, 1<<height - 1, 1 << height / 3} {
			s := sign(t, "form", height, index, "message")
			if s.Index != index || len(s.Sig) != 18 || len(s.Path) != height {
				t.Errorf("height %d: index %d, %d and %d texts", height, s.Index, len(s.Sig), len(s.Path))
			}
			for _, text := range slices.Concat(s.Sig, s.Path) {
				if !digest.Is(text) {
					t.Errorf("height %d: %q", height, text)
				}
			}
		}
	}
}

// P2.6: all heights of a secret have the same one-time keys, so a tree is the beginning of the higher ones.
func TestHeights(t *testing.T) {
	for height := range 8 {
		for _, index := range []int{0, 1<<height - 1, 1 << height / 3} {
			s, higher := sign(t, "secret", height, index, "message"), sign(t, "secret", height+1, index, "message")
			if !slices.Equal(s.Sig, higher.Sig) || !slices.Equal(s.Path, higher.Path[:height]) {
				t.Errorf("height %d, index %d: %v and %v", height, index, s, higher)
			}
			if public(t, "secret", height+1) != plainNode(public(t, "secret", height), higher.Path[height]) {
				t.Errorf("the tree of height %d is not a part of the next one", height)
			}
		}
	}
}

// P2.6 and P3: seals are reproducible, whatever was asked before, and share no memory.
func TestReproducible(t *testing.T) {
	for _, message := range someMessages() {
		first := sign(t, "secret", 2, 1, message)
		kept := copySeal(first)
		public(t, "other", 1)
		sign(t, "secret", 2, 2, "another "+message)
		second := sign(t, strings.Clone("secret"), 2, 1, strings.Clone(message))
		if !equalSeals(first, second) {
			t.Errorf("%q: %v and %v", message, first, second)
		}
		clear(first.Sig)
		clear(first.Path)
		if !equalSeals(second, kept) || !equalSeals(sign(t, "secret", 2, 1, message), kept) {
			t.Errorf("%q: the seals share memory", message)
		}
	}
	if public(t, "secret", 3) != public(t, "secret", 3) {
		t.Error("two public keys of one secret")
	}
}

// DOC.md, Rules: Verify leaves the seal as it is, and takes a nil path for an empty one.
func TestVerifyKeeps(t *testing.T) {
	key := public(t, "secret", 2)
	s := sign(t, "secret", 2, 1, "message")
	kept := copySeal(s)
	for range 3 {
		if !seal.Verify(key, "message", s) || seal.Verify(key, "other", s) || !equalSeals(s, kept) {
			t.Fatal("a second answer differs, or the seal was changed")
		}
	}
	low := sign(t, "secret", 0, 0, "message")
	for _, path := range [][]string{nil, {}} {
		if !seal.Verify(public(t, "secret", 0), "message", api.Seal{Sig: low.Sig, Path: path}) {
			t.Error("a seal without path is not accepted")
		}
	}
}
