package letters_test

import (
	"slices"
	"testing"

	"tusche/api"
	"tusche/letters"
)

// The rows of the chapter's table of examples, in its order.

func TestExampleSame(t *testing.T) {
	if !same(t, exampleO(), "badc", "bdca") {
		t.Error("badc and bdca")
	}
	if same(t, exampleO(), "abc", "acb") {
		t.Error("abc and acb")
	}
}

func TestExampleDiffer(t *testing.T) {
	if x, y, e := letters.Differ(exampleO(), "abc", "acb"); x != 1 || y != 2 || e != api.OK {
		t.Errorf("abc and acb: %d %d %d", x, y, e)
	}
	if x, y, e := letters.Differ(exampleO(), "ab", "abb"); x != 0 || y != 1 || e != api.OK {
		t.Errorf("ab and abb: %d %d %d", x, y, e)
	}
}

func TestExampleSwaps(t *testing.T) {
	if l := swapsOf(t, exampleO(), "badc", "bdca"); len(l) != 2 || letters.Verify(exampleO(), "badc", "bdca", l) != api.OK {
		t.Errorf("from badc to bdca: %v", l)
	}
	if e := letters.Verify(exampleO(), "badc", "bdca", list(1, 2)); e != api.OK {
		t.Errorf("from badc to bdca by 1 2: %d", e)
	}
}

func TestExampleForms(t *testing.T) {
	if log := first(t, exampleO(), "dacb"); log != "adcb" {
		t.Errorf("First: %s", log)
	}
	if l := steps(t, exampleO(), "dacb"); !slices.Equal(l, []string{"ad", "c", "b"}) {
		t.Errorf("Steps: %v", l)
	}
	if n := count(t, exampleO(), "dacb"); n != 3 {
		t.Errorf("Count: %d", n)
	}
}

func TestExampleBefore(t *testing.T) {
	for _, x := range []struct {
		i, k int
		want bool
	}{{0, 2, true}, {0, 1, false}, {0, 3, true}} {
		if is := before(t, exampleO(), "dacb", x.i, x.k); is != x.want {
			t.Errorf("%d, %d: %t", x.i, x.k, is)
		}
	}
}

func TestExampleRest(t *testing.T) {
	for _, a := range []string{"da", "a"} {
		if log, e := letters.Rest(exampleO(), a, "badc"); log != "" || e != api.ErrLost {
			t.Errorf("%s and badc: %s %d", a, log, e)
		}
	}
	if log := rest(t, exampleO(), "b", "badc"); log != "adc" {
		t.Errorf("b and badc: %s", log)
	}
}

func TestExampleCommon(t *testing.T) {
	if log := common(t, exampleO(), "badc", "bda"); log != "bad" {
		t.Errorf("badc and bda: %s", log)
	}
}
