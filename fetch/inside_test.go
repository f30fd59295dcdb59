package fetch

import (
	"errors"
	"strings"
	"testing"

	"silo/api"
)

// handed is what a queue hands out, each key letting those wait that are told of it.
func handed(q *queue, named map[string][]string) string {
	var out []string
	for k := range q.all() {
		out = append(out, k)
		q.add(named[k])
	}
	return strings.Join(out, " ")
}

// TestQueue: keys are handed out in the order in which they came, those too that come meanwhile, none twice.
func TestQueue(t *testing.T) {
	for _, c := range []struct {
		from  []string
		named map[string][]string
		want  string
		set   string
	}{
		{nil, nil, "", ""},
		{[]string{"b", "a", "b"}, nil, "b a", "a b"},
		{[]string{"b"}, map[string][]string{"b": {"b"}}, "b", "b"},
		{[]string{"c", "a"}, map[string][]string{"c": {"e", "d"}, "a": {"b", "e", "c"}, "d": {"f", "a"}}, "c a e d b f", "a b c d e f"},
		{[]string{"z"}, map[string][]string{"z": {"y"}, "y": {"x"}, "x": {"z", "y", "w"}}, "z y x w", "w x y z"},
	} {
		q := newQueue(c.from)
		if got := handed(q, c.named); got != c.want {
			t.Errorf("of %v %q are handed out, not %q", c.from, got, c.want)
		}
		if got := strings.Join(q.set(), " "); got != c.set {
			t.Errorf("of %v %q are the set, not %q", c.from, got, c.set)
		}
		if got := handed(q, nil); got != c.want {
			t.Errorf("of %v %q are handed out again, not %q", c.from, got, c.want)
		}
	}
}

// TestQueueLeft: what hands out keys may be left.
func TestQueueLeft(t *testing.T) {
	q := newQueue([]string{"a", "b", "c"})
	n := 0
	for k := range q.all() {
		n++
		if k == "b" {
			break
		}
	}
	if n != 2 || len(q.keys) != 3 {
		t.Errorf("%d keys are handed out, %v are there", n, q.keys)
	}
}

// TestNumber: what is wrong is told through all that is wrapped round it, and nothing is OK.
func TestNumber(t *testing.T) {
	for _, e := range []api.Errno{api.ErrNone, api.ErrKey, api.ErrForm, api.ErrKind, api.ErrDepth, api.ErrMany, api.ErrRange} {
		for _, err := range []error{e, fault{"k", e}, fault{"k", fault{"l", e}}} {
			if got := number(err); got != e {
				t.Errorf("number of %v = %v", err, got)
			}
		}
		if err := (fault{"\x1f\xa0", e}); err.Error() != "1fa0: "+e.Error() || !errors.Is(err, e) || errors.Is(err, api.ErrSum) {
			t.Errorf("the fault is %q", err.Error())
		}
	}
	if got := number(nil); got != api.OK {
		t.Errorf("number of nothing = %v", got)
	}
}
