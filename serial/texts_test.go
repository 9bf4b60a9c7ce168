package serial_test

import (
	"strconv"
	"strings"
	"testing"

	"tusche/serial"
)

// P1.1.
func TestName(t *testing.T) {
	for _, s := range []string{"a", "z", "stone", "abcdefghi", "zzzzzzzzz"} {
		if !serial.Name(s) {
			t.Errorf("%q is a name", s)
		}
	}
	for _, s := range []string{"", "abcdefghij", strings.Repeat("a", 1000), "Stone", "stonE", "a1", "1", "a b", " a", "a\n", "`", "{", "A", "a-b", "é", "ß", "ａ", "a\x00", "\x80", "a\xff"} {
		if serial.Name(s) {
			t.Errorf("%q is not a name", s)
		}
	}
}

// P1.1: each byte by itself.
func TestNameBytes(t *testing.T) {
	for b := range 256 {
		want := b >= 'a' && b <= 'z'
		for _, s := range []string{string([]byte{byte(b)}), string([]byte{'x', byte(b)}), string([]byte{byte(b), 'x'})} {
			if serial.Name(s) != want {
				t.Errorf("Name of %q: want %v", s, want)
			}
		}
	}
}

// P1.1.
func TestValue(t *testing.T) {
	for _, want := range []int{0, 1, 9, 10, 70, 99, 100, 1234567, 9999999, 10000000, 12345678, 99999999} {
		if n, is := serial.Value(strconv.Itoa(want)); n != want || !is {
			t.Errorf("Value of %d: %d %v", want, n, is)
		}
	}
	for _, s := range []string{"", "00", "007", "01", "00000000", "100000000", "123456789", "99999999999999999999999", "-1", "-0", "+1", " 1", "1 ", "1\n", "1a", "a1", "1.0", "1_0", "0x1", "/", ":", "1:", "1/", "٣", "１", "²", "1\x00", "\xff", "1\xb2", strings.Repeat("1", 1000)} {
		if n, is := serial.Value(s); n != 0 || is {
			t.Errorf("Value of %q: %d %v", s, n, is)
		}
	}
}

// P1.1: each byte by itself.
func TestValueBytes(t *testing.T) {
	for b := range 256 {
		want := b >= '0' && b <= '9'
		if n, is := serial.Value(string([]byte{byte(b)})); is != want || want && n != b-'0' || !want && n != 0 {
			t.Errorf("Value of the byte %d: %d %v", b, n, is)
		}
		if n, is := serial.Value(string([]byte{'4', byte(b)})); is != want || want && n != 40+b-'0' || !want && n != 0 {
			t.Errorf("Value of 4 and the byte %d: %d %v", b, n, is)
		}
	}
}
