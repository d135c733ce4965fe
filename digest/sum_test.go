package digest

import (
	"bytes"
	"testing"

	"sutler/api"
)

// 16.1: bytes whose digests others told.
func TestKnownDigests(t *testing.T) {
	for _, k := range []struct {
		key, size int
		want      string
	}{
		{0, 0, "69217a3079908094e11121d042354a7c1f55b6482ca1a51e1b250dfd1ed0eef9"},
		{0, 1, "e34d74dbaf4ff4c6abd871cc220451d2ea2648846c7757fbaac82fe51ad64bea"},
		{0, 2, "ddad9ab15dac4549ba42f49d262496bef6c0bae1dd342a8808f8ea267c6e210c"},
		{0, 3, "e8f91c6ef232a041452ab0e149070cdd7dd1769e75b3a5921be37876c45c9900"},
		{0, 63, "e57cb79487dd57902432b250733813bd96a84efce59f650fac26e6696aefafc3"},
		{0, 64, "56f34e8b96557e90c1f24b52d0c89d51086acf1b00f634cf1dde9233b8eaaa3e"},
		{0, 65, "1b53ee94aaf34e4b159d48de352c7f0661d0a40edff95a0b1639b4090e974472"},
		{0, 127, "f18417b39d617ab1c18fdf91ebd0fc6d5516bb34cf39364037bce81fa04cecb1"},
		{0, 128, "1fa877de67259d19863a2a34bcc6962a2b25fcbf5cbecd7ede8f1fa36688a796"},
		{0, 129, "5bd169e67c82c2c2e98ef7008bdf261f2ddf30b1c00f9e7f275bb3e8a28dc9a2"},
		{0, 1000, "1c067a5e746fb0f6734efac9a8cdb0e11061f0077f255184365c690115392501"},
		{0, 1 << 16, "b274d4c4980021755013dbeb61d225268f6238998ba08c25df654277fb4cbff0"},
		{0, api.MaxBytes, "b061ad701d3d43c2165bdfeccf7df85fbd3d75f5e4556beb45824f97a7ab6328"},
		{0, api.MaxBytes + 1, "a0e75bd5818499fe00c9c42450e669883ff134f043f0c091e00a589dfc2f96b6"},
		{1, 0, "cdcf93dac5437c31bf1e79a8398fbbddd1cef4427428ced165264455a9c48a95"},
		{1, 63, "28e6458ded9053682e04d45cd46e2728469ab1699beee82af0d3fc465aec1404"},
		{1, 64, "efc5e532e4815e7bcc9fc9a685a7b5745cd2cfbc04d37c3442363eb2ca42d0c0"},
		{1, 65, "3ab120e202c7ce80d8e4bd275fcc8cac55198b21840561ff5232c6867b336ec5"},
		{31, 0, "8fd216dd30a1569d75ad44645680686789db074b428a797014788f17946b331b"},
		{31, 1, "c73e1dff582f4f4706700a34e83ef79f8c68b934b40259f7dbbda36f4ad8ba00"},
		{31, 128, "65705cdc28b3a75e455f787484b3cabbe2b7a81d1078faf1b230aef9fa14c8af"},
		{32, 0, "48a8997da407876b3d79c0d92325ad3b89cbb754d86ab71aee047ad345fd2c49"},
		{32, 1, "40d15fee7c328830166ac3f918650f807e7e01e177258cdc0a39b11f598066f1"},
		{32, 63, "c65382513f07460da39833cb666c5ed82e61b9e998f4b0c4287cee56c3cc9bcd"},
		{32, 64, "8975b0577fd35566d750b362b0897a26c399136df07bababbde6203ff2954ed4"},
		{32, 65, "21fe0ceb0052be7fb0f004187cacd7de67fa6eb0938d927677f2398c132317a8"},
		{32, 127, "ddbfea75cc467882eb3483ce5e2e756a4f4701b76b445519e89f22d60fa86e06"},
		{32, 128, "0c311f38c35a4fb90d651c289d486856cd1413df9b0677f53ece2cd9e477c60a"},
		{32, 129, "46a73a8dd3e70f59d3942c01df599def783c9da82fd83222cd662b53dce7dbdf"},
	} {
		wantKeyed(t, rising(k.key), rising(k.size), k.want)
		if k.key == 0 {
			wantSum(t, rising(k.size), k.want)
		}
	}
}

// 16.1: texts whose digests others told, with keys and without.
func TestKnownTexts(t *testing.T) {
	for _, k := range []struct{ key, text, want string }{
		{"", "a", "4a0d129873403037c2cd9b9048203687f6233fb6738956e0349bd4320fec3e90"},
		{"", "abc", "508c5e8c327c14e2e1a72ba34eeb452f37458b209ed63a294d999b4c86675982"},
		{"", "The quick brown fox jumps over the lazy dog", "606beeec743ccbeff6cbcdf5d5302aa855c256c29b88c8ed331ea1a6bf3c8812"},
		{"key", "abc", "3f9723437b033bf0c1f4df43cafd0776068cb0a95912de13f3b2952a3aba764d"},
		{"\x00", "", "cdcf93dac5437c31bf1e79a8398fbbddd1cef4427428ced165264455a9c48a95"},
		{"\x00\x00", "", "9f085a2d8a7e95ecca1620317e908729355817e97a8c091bf2b0607966a503f6"},
		{string(make([]byte, 32)), "", "cc8ed046995def3f21db6abcfe34c3526960be9dd3270ed1ab7cfc7f29ad4bd6"},
		{"", string(make([]byte, 64)), "ae09db7cd54f42b490ef09b6bc541af688e4959bb8c53f359a6f56e38ab454a3"},
		{"", string(make([]byte, 65)), "857328bf990b00922782d3e81c6054c25d3375d386c7424abe3e01d79041046c"},
		{"", string(make([]byte, 128)), "4e420520b981ce7bdbf4ce2c4dbadb9450079b7deb9737b5232957d323f801cb"},
	} {
		wantKeyed(t, []byte(k.key), []byte(k.text), k.want)
	}
	million := bytes.Repeat([]byte("a"), 1000000)
	wantSum(t, million, "bec0c0e6cde5b67acb73b81f79a67a4079ae1c60dac9d2661af18e9f8b50dfa5")
}

// 16.1: keys of every length with bytes of all lengths up to five blocks: the digest of all their digests,
// one behind the other, as others told it.
func TestDigestOfManyDigests(t *testing.T) {
	var all []byte
	for k := range 33 {
		for n := range 321 {
			d, e := Keyed(rising(k), rising(n))
			if e != api.OK {
				t.Fatalf("Keyed of %d bytes with a key of %d: error %d", n, k, e)
			}
			all = append(all, d[:]...)
		}
	}
	wantSum(t, all, "339133f54cec2f068a469399fb1f804d1e118026c83e429db8ef9669b72f1897")
}

// 16.1: a key that is too long, with any bytes.
func TestKeyThatIsTooLong(t *testing.T) {
	for _, b := range [][]byte{nil, {}, {0}, rising(63), rising(64), rising(65), rising(1000)} {
		for k := 33; k <= 200; k++ {
			wantNoKey(t, rising(k), b)
		}
		for _, k := range []int{256, 32 + 256, 1 << 16, 1<<16 + 32, api.MaxBytes} {
			wantNoKey(t, make([]byte, k), b)
		}
		wantKeyed(t, rising(32), b, toldDigest(rising(32), b))
	}
}

// 16.1: a key is not what its noughts alone would be, nor is it bytes ahead of the others.
func TestKeyIsNoBytes(t *testing.T) {
	seen := map[[32]byte]int{}
	full := make([]byte, 64)
	for k := range 33 {
		d, _ := Keyed(full[:k], nil)
		seen[d]++
	}
	seen[Sum(full)]++
	seen[Sum(full[:32])]++
	if len(seen) != 35 {
		t.Errorf("%d digests of 35 differ", len(seen))
	}
	for n := 1; n <= 32; n++ {
		d, _ := Keyed(rising(n), rising(64))
		block := append(rising(n), make([]byte, 64-n)...)
		if d == Sum(append(block, rising(64)...)) || d == Sum(append(rising(n), rising(64)...)) {
			t.Errorf("a key of %d bytes is as bytes ahead", n)
		}
	}
}

// 16.1: noughts behind bytes tell, though blocks are filled up with noughts.
func TestNoughtsBehindBytesTell(t *testing.T) {
	seen := map[[32]byte]bool{}
	for n := range 200 {
		seen[Sum(make([]byte, n))] = true
		seen[Sum(append([]byte("a"), make([]byte, n)...))] = true
	}
	if len(seen) != 400 {
		t.Errorf("%d digests of 400 differ", len(seen))
	}
}

// 16.3: without a key, and with a key of nothing.
func TestKeyOfNothing(t *testing.T) {
	room := []byte("a key, of which nothing is taken")
	for n := range 200 {
		b := rising(n)
		want := Hex(Sum(b))
		for _, key := range [][]byte{nil, {}, room[:0], room[5:5], room[:0:0]} {
			wantKeyed(t, key, b, want)
		}
	}
	for _, b := range [][]byte{nil, {}, room[:0]} {
		wantSum(t, b, Of(""))
		wantKeyed(t, nil, b, Of(""))
		wantKeyed(t, []byte{}, b, Of(""))
		wantKeyed(t, []byte{0}, b, "cdcf93dac5437c31bf1e79a8398fbbddd1cef4427428ced165264455a9c48a95")
	}
}

// Rule 4: what is handed in stays, and so does what lies behind it.
func TestWhatIsHandedInStays(t *testing.T) {
	room := rising(300)
	for _, k := range []int{0, 1, 8, 31, 32, 33, 64} {
		for _, n := range []int{0, 1, 63, 64, 65, 129} {
			key, b := room[10:10+k], room[100:100+n]
			_, e := Keyed(key, b)
			if (e == api.OK) != (k <= 32) {
				t.Errorf("a key of %d bytes: error %d", k, e)
			}
			Sum(b)
			Same(Of(string(b)), b)
			wantKept(t, "what was handed in", room, rising(300))
		}
	}
}

// Rule 4: nothing of what is handed in is kept, and key and bytes may be of one piece.
func TestNothingIsKept(t *testing.T) {
	room := rising(200)
	for _, k := range []int{1, 20, 32} {
		wantKeyed(t, room[:k], room, toldDigest(rising(k), rising(200)))
		wantKeyed(t, room[5:5+k], room[:6+k], toldDigest(rising(200)[5:5+k], rising(6+k)))
	}
	key, b := rising(9), rising(70)
	d, _ := Keyed(key, b)
	was := d
	clear(key)
	clear(b)
	if d != was {
		t.Errorf("a digest is changed with the bytes: %x, was %x", d, was)
	}
	clear(d[:])
	wantKeyed(t, rising(9), rising(70), Hex(was))
}

// P2: a call that is refused changes nothing for later ones.
func TestRefusedChangesNothing(t *testing.T) {
	for _, n := range []int{0, 1, 64, 65} {
		want := toldDigest(rising(4), rising(n))
		wantNoKey(t, rising(33), rising(n))
		wantUnparsed(t, want[1:])
		wantUnparsed(t, put(want, 63, 'G'))
		wantKeyed(t, rising(4), rising(n), want)
		wantText(t, "Hex", Hex(Sum(rising(n))), toldDigest(nil, rising(n)))
	}
}

// What many ask at once is answered to each as if it were alone.
func TestManyAtOnce(t *testing.T) {
	done := make(chan bool)
	for i := range 8 {
		go func() {
			defer func() { done <- true }()
			key, b := rising(4*i), rising(60*i)
			want, _ := Keyed(key, b)
			for range 200 {
				wantKeyed(t, key, b, Hex(want))
				wantParsed(t, Hex(want), want)
				wantSame(t, Of(string(b)), b, true)
			}
		}()
	}
	for range 8 {
		<-done
	}
}
