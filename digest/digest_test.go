package digest

import (
	"crypto/sha256"
	"encoding/hex"
	"strings"
	"testing"
)

// anyBytes: n bytes of all values.
func anyBytes(n int) string {
	b := make([]byte, n)
	for i := range b {
		b[i] = byte(i*167 + n)
	}
	return string(b)
}

func library(message string) string {
	h := sha256.Sum256([]byte(message))
	return string(h[:])
}

func TestPublishedHashes(t *testing.T) {
	for _, c := range []struct{ message, want string }{
		{"", "e3b0c44298fc1c149afbf4c8996fb92427ae41e4649b934ca495991b7852b855"},
		{"abc", "ba7816bf8f01cfea414140de5dae2223b00361a396177a9cb410ff61f20015ad"},
		{"abcdbcdecdefdefgefghfghighijhijkijkljklmklmnlmnomnopnopq", "248d6a61d20638b8e5c026930c3e6039a33ce45964ff2167f6ecedd419db06c1"},
		{strings.Repeat("a", 1000000), "cdc76e5c9914fb9281a1c7e284d73e67f1809a48a497200e046d39ccc7112cd0"},
	} {
		if got := hex.EncodeToString([]byte(Of(c.message))); got != c.want {
			t.Errorf("hash of %d bytes: %s, want %s", len(c.message), got, c.want)
		}
	}
}

func TestNoParts(t *testing.T) {
	if Of() != library("") || Of("", "", "") != library("") {
		t.Error("no parts and empty parts are no bytes")
	}
}

func TestLengths(t *testing.T) {
	for n := range 400 {
		message := anyBytes(n)
		if got := Of(message); got != library(message) {
			t.Errorf("hash of %d bytes: %x, want %x", n, got, library(message))
		}
	}
}

func TestParts(t *testing.T) {
	for n := range 200 {
		message := anyBytes(n)
		want := library(message)
		for cut := range n + 1 {
			if Of(message[:cut], message[cut:]) != want {
				t.Errorf("%d bytes, cut at %d", n, cut)
			}
			if Of(message[:cut/2], message[cut/2:cut], "", message[cut:]) != want {
				t.Errorf("%d bytes, cut at %d and %d", n, cut/2, cut)
			}
		}
		if Of(strings.Split(message, "")...) != library(strings.Join(strings.Split(message, ""), "")) {
			t.Errorf("%d bytes, cut everywhere", n)
		}
	}
}
