package xz_test

import (
	"bytes"
	"encoding/hex"
	"math"
	"math/rand"
	"slices"
	"testing"

	"hamper/api"
	"hamper/xz"
)

// P16.3: block at its edges, and numbers that are no check, ahead of a text that is too long.
func TestMakeArguments(t *testing.T) {
	tooLong := make([]byte, api.MaxBytes+1)
	for _, b := range [][]byte{nil, text("a"), tooLong, tooLong[:65537]} {
		for _, block := range []int{math.MinInt, -1, 0, 1<<20 + 1, math.MaxInt} {
			for _, check := range []int{xz.None, xz.Crc32, xz.Crc64, 2} {
				if have, e := xz.Make(b, block, check); e != api.ErrArg || len(have) != 0 {
					t.Errorf("Make(.. (%d), %d, %d) = % .60x, error %d", len(b), block, check, have, int(e))
				}
			}
		}
		for _, block := range []int{0, 1, 1 << 20} {
			for _, check := range []int{math.MinInt, -1, 2, 3, 5, 6, 10, 15, 16, 255, 256, 257, 260, 1 << 32, 1<<32 + 1, math.MaxInt} {
				if have, e := xz.Make(b, block, check); e != api.ErrArg || len(have) != 0 {
					t.Errorf("Make(.. (%d), %d, %d) = % .60x, error %d", len(b), block, check, have, int(e))
				}
			}
		}
	}
	for _, check := range checks {
		for _, block := range []int{1, 2, 1<<20 - 1, 1 << 20} {
			if have, e := xz.Make(tooLong, block, check); e != api.ErrBig || len(have) != 0 {
				t.Errorf("Make(.. (%d), %d, %d) = % .60x, error %d", len(tooLong), block, check, have, int(e))
			}
			readTells(t, makes(t, nil, block, check), 0, "")
			readTells(t, makes(t, text("ab"), block, check), 2, "ab")
		}
	}
}

// P16.3: as many blocks as may be, and one more.
func TestMostBlocks(t *testing.T) {
	b := make([]byte, 3*65536+1)
	for block := 1; block <= 3; block++ {
		for _, over := range []int{-block, -1, 0} {
			made := makes(t, b[:65536*block+over], block, xz.Crc32)
			readTells(t, made, len(b), string(b[:65536*block+over]))
		}
		if have, e := xz.Make(b[:65536*block+1], block, xz.Crc32); e != api.ErrBig || len(have) != 0 {
			t.Errorf("%d bytes in blocks of %d: %d bytes, error %d", 65536*block+1, block, len(have), int(e))
		}
	}
	b = make([]byte, api.MaxBytes)
	for block, size := range map[int]int{4095: 4095 * 65536, 4094: 4094 * 65536} {
		if have, e := xz.Make(b[:size+1], block, xz.None); e != api.ErrBig || len(have) != 0 {
			t.Errorf("%d bytes in blocks of %d: %d bytes, error %d", size+1, block, len(have), int(e))
		}
	}
}

// P16.3 to P16.5: as long a text as may be.
func TestMostBytes(t *testing.T) {
	b := make([]byte, api.MaxBytes)
	b[len(b)-1] = 1
	made, e := xz.Make(b, 1<<20, xz.Crc64)
	if e != api.OK {
		t.Fatalf("error %d", int(e))
	}
	have, e := xz.Read(made, api.MaxBytes)
	if e != api.OK || !bytes.Equal(have, b) {
		t.Errorf("%d bytes, error %d", len(have), int(e))
	}
}

// blocksOf tells the records of a stream, by its index.
func blocksOf(t *testing.T, made []byte) []xz.Record {
	t.Helper()
	foot := made[len(made)-12:]
	size := (int(foot[4]) + int(foot[5])<<8 + int(foot[6])<<16 + 1) * 4
	l, used, e := xz.ReadIndex(made[len(made)-12-size:])
	if e != api.OK || used != size {
		t.Fatalf("% .200x: ReadIndex tells %d, error %d", made, used, int(e))
	}
	return l
}

// P16.3: a text that is a whole number of blocks, one byte less and one more, and one of no byte.
func TestWholeBlocks(t *testing.T) {
	r := rand.New(rand.NewSource(1620))
	for _, check := range checks {
		for _, block := range []int{1, 2, 3, 4, 5, 8, 13, 64, 127, 128, 129, 1000} {
			for count := range 4 {
				for _, over := range []int{-1, 0, 1} {
					size := max(0, count*block+over)
					b := repeating(r, size, 3)
					made := makes(t, b, block, check)
					l := blocksOf(t, made)
					if len(l) != (size+block-1)/block {
						t.Errorf("%d bytes in blocks of %d: %d blocks", size, block, len(l))
					}
					for i, x := range l {
						if x.Text != min(block, size-i*block) {
							t.Errorf("%d bytes in blocks of %d: %v", size, block, l)
						}
					}
					if text, e := reads(t, made, len(b)); e != api.OK || !bytes.Equal(text, b) {
						t.Errorf("%d bytes in blocks of %d: error %d", size, block, int(e))
					}
				}
			}
		}
	}
}

// P16.3: streams written out by hand.
func TestMakeByHand(t *testing.T) {
	const header = "020021011600000074" + "2fe5a3"
	for _, x := range []struct {
		text         string
		block, check int
		body, index  string // without the index's sum
	}{
		{"a", 9, xz.None, header + "0100006100" + "000000", "0001" + "1101"},
		{"a", 9, xz.Crc32, header + "0100006100" + "000000" + "43beb7e8", "0001" + "1501"},
		{"a", 1 << 20, xz.Crc64, header + "0100006100" + "000000" + "052b652e77840233", "0001" + "1901"},
		{"ab", 9, xz.None, header + "010001616200" + "0000", "0001" + "1202"},
		{"abc", 9, xz.None, header + "01000261626300" + "00", "0001" + "1303"},
		{"abcd", 9, xz.None, header + "0100036162636400", "0001" + "1404"},
		{"ab", 1, xz.None, header + "0100006100" + "000000" + header + "0100006200" + "000000", "0002" + "1101" + "1101" + "0000"},
	} {
		index := summed(unhex(x.index)...)
		want := slices.Concat(headOf(0, byte(x.check)), unhex(x.body), index, footOf(len(index), 0, byte(x.check)))
		if b, e := xz.Make([]byte(x.text), x.block, x.check); e != api.OK || !bytes.Equal(b, want) {
			t.Errorf("Make(%q, %d, %d) = % x, error %d, want % x", x.text, x.block, x.check, b, int(e), want)
		}
		readTells(t, want, len(x.text), x.text)
	}
}

const (
	banana = "banana bandana banana bandanas, banana!"
	shells = "she sells sea shells by the sea shore; the shells she sells are sea shells, for sure."
)

// P16.3: streams that liblzma was asked to read, too, and of which it told these texts.
func TestMadeAsOthersReadIt(t *testing.T) {
	for _, x := range []struct {
		text         string
		block, check int
		want         string
	}{
		{shells, 1048576, xz.Crc64, "fd377a585a000004e6d6b4460200210116000000742fe5a3e0005400365d00399a08ce76d98e23af9fb939d25cc7e7c5d96441f0b291c9d0c6bbd5d21f7155478292cef03da430c69c897f82abaa4f0987205e7d8000000095096d5640de6d2c00015255862f0ab31fb6f37d010000000004595a"},
		{shells, 60, xz.Crc32, "fd377a585a0000016922de360200210116000000742fe5a3e0003b00275d00399a08ce76d98e23af9fb939d25cc7e7c5d96441f0b291c9d0c6bbd5d21f7155478292cc8cda000000f6865a470200210116000000742fe5a301001861726520736561207368656c6c732c20666f7220737572652e00000000986c0f1e00023f3c2d190000a3c1ef223e300d8b020000000001595a"},
		{banana, 20, xz.None, "fd377a585a000000ff12d9410200210116000000742fe5a3e00013000f5d0031184a2bfebca15904b235d590db0000000200210116000000742fe5a3010012612062616e64616e61732c2062616e616e6121000000022314231300006395024aa8000afc020000000000595a"},
		{banana, 13, xz.Crc64, "fd377a585a000004e6d6b4460200210116000000742fe5a301000c62616e616e612062616e64616e00000000e285a4d74fa19ac70200210116000000742fe5a301000c612062616e616e612062616e64000000008963764ed469750c0200210116000000742fe5a301000c616e61732c2062616e616e612100000000f37ac7a39ba83c710003250d250d250dc5f54df2b1c467fb020000000004595a"},
		{banana, 39, xz.Crc32, "fd377a585a0000016922de360200210116000000742fe5a3e0002600155d0031184a2bfebca15904b22c312d998719bf67d20000000000003b58444800012d27af5aa6a59042990d010000000001595a"},
		{"", 1, xz.Crc64, "fd377a585a000004e6d6b446000000001cdf44211fb6f37d010000000004595a"},
	} {
		b, e := xz.Make([]byte(x.text), x.block, x.check)
		if have := hex.EncodeToString(b); e != api.OK || have != x.want {
			t.Errorf("Make(%.20q, %d, %d) = %s, error %d", x.text, x.block, x.check, have, int(e))
		}
		readTells(t, b, len(x.text), x.text)
	}
}

// P16.3: every short text in blocks of each size, with each check.
func TestMakeEachShortText(t *testing.T) {
	texts := [][]byte{nil}
	for i := 0; i < len(texts) && len(texts[i]) < 6; i++ {
		for _, c := range []byte{0, 255} {
			texts = append(texts, append(slices.Clone(texts[i]), c))
		}
	}
	for _, b := range texts {
		for block := 1; block <= 7; block++ {
			for _, check := range checks {
				reads(t, makes(t, b, block, check), len(b))
			}
		}
	}
}

// P16.3: many texts, blocks and checks.
func TestMakeManyTexts(t *testing.T) {
	r := rand.New(rand.NewSource(1621))
	for range 900 {
		b := text(string(repeating(r, r.Intn(1<<r.Intn(13)), 1+r.Intn(256))))
		made := makes(t, b, 1+r.Intn(2*len(b)+2), checks[r.Intn(3)])
		reads(t, made, len(b))
		reads(t, made, r.Intn(len(b)+1))
	}
}
