package verify

import (
	"strings"

	"maslin/api"
)

// effect is which kinds an Op pops, and pushes, the bottom first. N and T are kinds, R is that of the register Arg; a and b are any kinds, the same ones wherever they stand in it.
type effect struct{ pops, pushes string }

// effects are those of the Ops. That OpElse goes back to earlier kinds is for its block to know.
var effects = [api.Ops + 1]effect{
	api.OpText:  {"", "T"},
	api.OpNum:   {"", "N"},
	api.OpIn:    {"", "T"},
	api.OpCat:   {"TT", "T"},
	api.OpLen:   {"T", "N"},
	api.OpPart:  {"TNN", "T"},
	api.OpParse: {"T", "N"},
	api.OpShow:  {"N", "T"},
	api.OpAdd:   {"NN", "N"},
	api.OpMul:   {"NN", "N"},
	api.OpLess:  {"NN", "N"},
	api.OpSame:  {"TT", "N"},
	api.OpNot:   {"N", "N"},
	api.OpDrop:  {"a", ""},
	api.OpDup:   {"a", "aa"},
	api.OpSwap:  {"ab", "ba"},
	api.OpGet:   {"", "R"},
	api.OpSet:   {"R", ""},
	api.OpIf:    {"N", ""},
	api.OpElse:  {"", ""},
	api.OpEnd:   {"", ""},
	api.OpEach:  {"T", "T"},
	api.OpEmit:  {"TT", ""},
}

// effectOf returns the effect of x, with the kind of its register.
func effectOf(x api.Ins) effect {
	kind := "T"
	if x.Arg < api.Regs/2 {
		kind = "N"
	}
	f := effects[x.Op]
	return effect{
		pops:   strings.ReplaceAll(f.pops, "R", kind),
		pushes: strings.ReplaceAll(f.pushes, "R", kind),
	}
}

// fits reports whether the top kinds of a stack, as many as f pops, are those that it pops.
func (f effect) fits(top string) bool {
	for i := range len(top) {
		if want := f.pops[i]; (want == 'N' || want == 'T') && want != top[i] {
			return false
		}
	}
	return true
}

// pushed returns the kinds that f pushes when it pops those of top.
func (f effect) pushed(top string) string {
	kinds := []byte(f.pushes)
	for i, kind := range kinds {
		if kind == 'a' || kind == 'b' {
			kinds[i] = top[strings.IndexByte(f.pops, kind)]
		}
	}
	return string(kinds)
}
