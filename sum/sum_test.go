package sum

import (
	"hash/crc32"
	"strings"
	"sync"
	"testing"
)

// It stands first in this file, so that goroutines ask for the table while it is not filled.
func TestOfFirstAskedForBySeveral(t *testing.T) {
	var group sync.WaitGroup
	for range 16 {
		group.Go(func() {
			if got := Of([]byte("123456789")); got != 0xe3069283 {
				t.Errorf("P7: the sum of 123456789 = %x", got)
			}
		})
	}
	group.Wait()
}

func TestOfKnownBytes(t *testing.T) {
	for _, c := range []struct {
		data string
		want uint32
	}{
		{"", 0},
		{"a", 0xc1d04330},
		{"123456789", 0xe3069283},
		{strings.Repeat("\x00", 32), 0x8a9136aa},
		{strings.Repeat("\xff", 32), 0x62a8ab43},
	} {
		if got := Of([]byte(c.data)); got != c.want {
			t.Errorf("P7: the sum of %q = %x, want %x", c.data, got, c.want)
		}
	}
}

func TestOfEveryByte(t *testing.T) {
	castagnoli := crc32.MakeTable(crc32.Castagnoli)
	data := []byte{}
	for b := range 256 {
		one := []byte{byte(b)}
		if got, want := Of(one), crc32.Checksum(one, castagnoli); got != want {
			t.Errorf("P7: the sum of the byte %d = %x, want %x", b, got, want)
		}
		data = append(data, byte(b*167))
		if got, want := Of(data), crc32.Checksum(data, castagnoli); got != want {
			t.Errorf("P7: the sum of %d bytes = %x, want %x", len(data), got, want)
		}
	}
}
