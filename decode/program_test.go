package decode_test

import (
	"fmt"
	"testing"

	"lighterman/api"
)

// lines are so many bytes of a text.
func lines(n int) []byte {
	var b []byte
	for i := 0; len(b) < n; i++ {
		b = fmt.Appendf(b, "%d times %d is %d; ", i, i%7, i*(i%7))
	}
	return b[:n]
}

// noise are so many bytes that nothing is to be found in.
func noise(n int) []byte {
	b := make([]byte, n)
	x := uint32(1)
	for i := range b {
		x = x*1664525 + 1013904223
		b[i] = byte(x >> 24)
	}
	return b
}

// ofAnotherProgram are frames that the format's own C program wrote. Of the last two the blocks have 300 and 150 bytes: there are some of each kind, and packed ones behind the others lean on weights, tables and offsets ahead of these.
func ofAnotherProgram() []struct {
	want []byte
	text string
} {
	return []struct {
		want []byte
		text string
	}{
		{
			nil,
			"28b52ffd240001000099e9d851",
		},
		{
			nil,
			"28b52ffd0000010000",
		},
		{
			[]byte("a"),
			"28b52ffd2401090000615b6e8ca9",
		},
		{
			lines(300),
			"28b52ffd642c00050400f2051013a025cd01d647e1ff2f896c1b2d6da2b0ff590313efd01caf9126151c9df1561509efa070c7b822c13dbabb3666f7587505a25b3397e4950b62b91800446009222060" +
				"e3ac073252814d6885f24c0b7b48b634694f921d93b69745ea8155214b2d60780e9ecb76267ba79a6594af5610525996c9b24c96cd04cb4e36c0a27e5b06",
		},
		{
			lines(300),
			"28b52ffd602c00050400f2051013a025cd01d647e1ff2f896c1b2d6da2b0ff590313efd01caf9126151c9df1561509efa070c7b822c13dbabb3666f7587505a25b3397e4950b62b91800446009222060" +
				"e3ac073252814d6885f24c0b7b48b634694f921d93b69745ea8155214b2d60780e9ecb76267ba79a6594af5610525996c9b24c96cd04cb4e36c0",
		},
		{
			each(300000, 7),
			"28b52ffda4e09304005400001007070100fbff39c00202001007039f04072ae4ab43",
		},
		{
			each(300000, 7),
			"28b52ffd04485400001007070100fbff39c00202001007039f04072ae4ab43",
		},
		{
			lines(1500),
			"28b52ffd64dc046d0a00969e3d10c0a5d840bbfa771390c8eedec90ae19c390037003800e6c30df32408e56d57be64e52d559e4a9df267523ecae5675a3e24ca5f05fecef8922a9e4cc457677841841f" +
				"9b6fcb070503830240601830027c8d3b7c8463f8a20ac24f7bc28f99f0252524fc844778aa8af0e75a78112a7c54082f58f09977d5cc87b4cc4794ccdbc67c8d98b7ed06e2e229a4c5c7388a37ab407c" +
				"b547bc9115f12142c4877988772dc417d5c43b5ae2838284e1ef7cc393d8869f6b0d4f521afe6e869791f1043e7e2c3d3ec671fc5105e3cfce8c2f9a329e4cc8f8123cc60bb5183f531b5fab85f1d311" +
				"8a8f912bfeca56fc09ade2434ac54f4d49f1b658a811701c013226df37b0a342071018a1118960970798e84d6c702dafc825c49228cce05a5ded4a585dec4f03309008b6402520a40220f309f695dfef" +
				"a4b7788093b54bcf7a2b585205ab07580256cc609d62ab66ff210b",
		},
		{
			then(lines(300), each(600, 0), noise(150), lines(1200)[300:]),
			"28b52ffd44009e0674030032c60f10c0b701d4ac7f37818844766f3f847302c07d59ba47a3cf7d00e69eb2dcdfd93d19b90f167d08a04fcbecb110fbf45d2fccfaabea6df754434a35a390530a17a810" +
				"58135c75ef20430a3d1048510a24ea3a0080a2bff60edf76a54f7cb2d2be3f8043e9c3071ffc1dec656209000062090000e40600540c3c5e81b40c5ec68e04a3406c97d63cfbdc53ae88371a125121b5" +
				"956143c0ee2d55fb638c77fee0b6f5f9275faf297e2c97df5404f33bd406620b5821cf68259ccbee0207ffcd7464abf7bb7d6a25e6bfa294890d6b90f256c646e9f06e6e5a05a9bf717fd7480059a914" +
				"4b373ec5809d93fb7a4cfcb8a073991ef0d302318f048f79747104aef3bc81ce59a3f74cc79594230690d61469732035313b20313837323b20313939353b2032303132303b203231323232323b203233" +
				"34363b2032343235313030090c011bdf2002a0800514bf151bb080cac72d115264020063450aadebf37c3d51d1f589c2fab3c301909686d61fd5598f69d6872aeb4dd87a4ab25e885009aa2773561f13" +
				"28c0b30760e29b1b1b8d1642b60b65b76cb7c5e5b2a886450c1eac119846045c020093440935a390d30040624f66080efb7219f689857d918d84228480062ee4f568787d0877bd9ddd0916a8107818ef" +
				"8099161b60483c8a630344edf09efb040a8907e5d9283b58e282b47303350100f38205993d19667f7969d917a8ec91ccd9d351f60008ecd3ae09d000c4475c3a1c703e3e010e1210aa8d",
		},
		{
			then(lines(300), each(600, 0), noise(150), lines(750)),
			"28b52ffd440008064c020092030b10b0a90387120c9d88b66bc9de8f4f09446972c7103731f3860be1a6017009e20577d7cc6e8dcc352ac7a42b0e20a0a363c009bb9565f96405a55a26d3b24c9665c2" +
				"b2933530940100d38205c2ee61da0d160cd81d02ed569e5d00cc6e61d91d66020988102825fc10b644bb0e00b0fbc13ee6630ff5c003e3800bb2040000b2040000b2040000b2040000b004003c5e81b4" +
				"0c5ec68e04a3406c97d63cfbdc53ae88371a125121b5956143c0ee2d55fb638c77fee0b6f5f9275faf297e2c97df5404f33bd406620b5821cf68259ccbee0207ffcd7464abf7bb7d6a25e6bfa294890d" +
				"6b90f256c646e9f06e6e5a05a9bf717fd7480059a9144b373ec5809d93fb7a4cfcb8a073991ef0d302318f048f79747104aef3bc81ce59a3f74cc79594230690d6147c01003302046972c71037316fb8" +
				"70d3c025e305772b0900c0093b749ab4e07469c169d38213d4c2d02d0537ef0130117105940100d38205c2ee61da0d160cd81d02ed569e5d00cc6e61d91d66020988102825fc10b644bb0e00b0fbc13e" +
				"e6630ff5c003e3800b5401003343065516ee9e007713e0ddbb3bbb5b6775371062f7c4b06b616402082cc0b307a52c170e1845a9e20854010023c30578431ae21d67871789e1ad2cbce4c8b87b69e26e" +
				"a1e5dd0838105e1e0fa6948bab198c118c46045d01003343061fb809cec0adba02378311bcc06ce00542e04d4c0c78411d080838105e9e0e4643689622de44b8023c40529b",
		},
	}
}

func TestDecodeOfAnotherProgram(t *testing.T) {
	var all []byte
	var want decoded
	for _, c := range ofAnotherProgram() {
		b := byHex(c.text)
		wantDecoded(t, free(), b, decoded{b: c.want, frames: 1})
		wantDecoded(t, bounds{20, len(c.want)}, b, decoded{b: c.want, frames: 1})
		if len(c.want) > 0 {
			wantDecoded(t, bounds{20, len(c.want) - 1}, b, refusal(api.ErrBig))
		}
		for n := 1; n < len(b); n++ {
			wantDecoded(t, bounds{20, len(c.want)}, b[:n], refusal(api.ErrShort))
		}
		all, want.b = then(all, b), then(want.b, c.want)
		want.frames++
		wantDecoded(t, bounds{20, len(want.b)}, all, want)
	}
}

// Of a frame with a sum no byte of its blocks may be another one, unless it makes the same.
func TestDecodeOfAnotherProgramsBytesChanged(t *testing.T) {
	for _, c := range ofAnotherProgram() {
		b := byHex(c.text)
		for place := range b {
			for _, bit := range []int{place % 8, (place*5 + 3) % 8} {
				other := then(b[:place], []byte{b[place] ^ 1<<bit}, b[place+1:])
				got := wantAsInWords(t, bounds{20, len(c.want)}, other)
				if got.err == api.OK && b[4]&sumBit != 0 && other[4]&sumBit != 0 && !got.is(decoded{b: c.want, frames: 1}) {
					t.Errorf("%x: bit %d of the byte %d changed: %v", b, bit, place, got)
				}
			}
		}
	}
}
