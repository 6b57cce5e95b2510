package literals

import (
	"bytes"
	"testing"

	"lighterman/api"
)

// No literals are packed in 2^10 bytes or more in one stream, as 255 codes of 11 bits have 351, or in 2^18 or more in four; so such bytes are handed to section.

func TestSectionOfMuchThatIsPacked(t *testing.T) {
	for _, c := range []struct {
		n, packed int
		head      []byte // none, if it is refused
	}{
		{1, 1023, []byte{0x12, 0xc0, 0xff}},
		{255, 1023, []byte{0xf2, 0xcf, 0xff}},
		{255, 1024, nil},
		{1, 1024, nil},
		{255, 16384, nil},
		{255, 1 << 18, nil},
		{256, 1023, []byte{0x06, 0xd0, 0xff}},
		{256, 1024, []byte{0x0a, 0x10, 0x00, 0x10}},
		{256, 16383, []byte{0x0a, 0x10, 0xfc, 0xff}},
		{256, 16384, []byte{0x0e, 0x10, 0x00, 0x00, 0x10}},
		{256, 1<<18 - 1, []byte{0x0e, 0x10, 0xc0, 0xff, 0xff}},
		{api.MaxBlock, 1<<18 - 1, []byte{0x0e, 0x00, 0xe0, 0xff, 0xff}},
		{256, 1 << 18, nil},
		{256, 1<<18 + 1, nil},
		{api.MaxBlock, 1 << 18, nil},
		{api.MaxBlock, 1 << 20, nil},
	} {
		packed := bytes.Repeat([]byte{7}, c.packed)
		lowest, highest := formsFor(c.n)
		b, err := section(head{kind: described, form: lowest, literals: c.n, packed: c.packed}, highest, packed)
		if c.head == nil {
			if b != nil || err != api.ErrArg {
				t.Errorf("%d literals in %d bytes: %d bytes, error %d; want error %d", c.n, c.packed, len(b), int(err), int(api.ErrArg))
			}
			continue
		}
		if !bytes.HasPrefix(b, c.head) || !bytes.Equal(b[len(c.head):], packed) || err != api.OK {
			t.Errorf("%d literals in %d bytes: %d bytes, error %d; want the head %x", c.n, c.packed, len(b), int(err), c.head)
		}
	}
}
