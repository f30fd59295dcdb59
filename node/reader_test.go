package node

import (
	"errors"
	"strings"
	"testing"

	"silo/api"
)

// TestThrown: the chapter's ways, what a reader throws is a fault round what is wrong, wherever it is thrown; P11.2, all of them are told as ErrForm.
func TestThrown(t *testing.T) {
	key := strings.Repeat("k", api.KeySize)
	for _, c := range []struct {
		name, s string
		why     api.Errno
	}{
		{"no kind", "", api.ErrShort},
		{"no number of parts", "\x02", api.ErrShort},
		{"a long number of parts", "\x02\x80\x00", api.ErrForm},
		{"a number of entries without end", "\x03" + strings.Repeat("\xff", 10), api.ErrRange},
		{"no part", "\x02\x01", api.ErrShort},
		{"a short key", "\x02\x01" + key[1:], api.ErrShort},
		{"no size", "\x02\x01" + key, api.ErrShort},
		{"a long size", "\x02\x01" + key + "\x81\x00", api.ErrForm},
		{"a size of 4097", "\x02\x01" + key + "\x81\x20", api.ErrRange},
		{"a size that would wrap round", "\x02\x01" + key + "\xff\xff\xff\xff\xff\xff\xff\xff\xff\x01", api.ErrRange},
		{"no second part", "\x02\x02" + key + "\x01", api.ErrShort},
		{"no name", "\x03\x01", api.ErrShort},
		{"a short name", "\x03\x01\x02a", api.ErrShort},
		{"a name of 65537 bytes", "\x03\x01\x81\x80\x04", api.ErrRange},
		{"no kind of an entry", "\x03\x01\x01a", api.ErrShort},
		{"a short key of an entry", "\x03\x01\x01a\x02" + key[1:], api.ErrShort},
		{"bytes behind a file", "\x02\x00\x00", api.ErrForm},
		{"bytes behind a directory", "\x03\x01\x01a\x02" + key + key, api.ErrForm},
		{"bytes behind no kind", "\x04\x00", api.ErrForm},
	} {
		_, err := whole(c.s)
		var thrown fault
		if !errors.As(err, &thrown) || !errors.Is(err, c.why) || err.Error() != "no node: "+c.why.Error() {
			t.Errorf("%s: thrown is %v, not %v", c.name, err, c.why)
		}
		if n, why := Read(c.s); why != api.ErrForm || !Same(n, api.Node{}) {
			t.Errorf("%s: Read = %v, %v", c.name, n, why)
		}
	}
	for _, s := range []string{"\x01", "\x01a", "\x02\x00", "\x03\x00", "\x04", "\x02\x01" + key + "\x80\x20", "\x03\x01\x01a\x0f" + key} {
		if _, err := whole(s); err != nil {
			t.Errorf("of %x %v is thrown", s, err)
		}
	}
}
