package mean_test

import (
	"testing"

	"bluebell/api"
	"bluebell/mean"
)

// wantNarrow looks at whether the runs of commands of start are narrow, by forms.
func wantNarrow(t *testing.T, want bool, by []api.Form, commands ...string) {
	t.Helper()
	for _, c := range commands {
		s := mustParse(t, body(c))
		for _, f := range by {
			if r, narrow, err := mean.Run(s, f, "a", plenty); narrow != want || err != api.OK || r.End == api.Wild || r.End == api.Fuel {
				t.Errorf("Run(%q) by %v: %s, narrow %t, error %d; want %t", c, f, show(r), narrow, err, want)
			}
		}
	}
}

// P5.1: what is narrow, and what is not for one reason each.
func TestNarrowNumbers(t *testing.T) {
	wantNarrow(t, true, forms,
		"f(32767) ; f(- 32767 - 1)", "f(16384 + 16383)", "f(- 16384 - 16384)", "f(181 * 181)", "f((- 256) * 128)", "f((- 32767 - 1) / 2)", "f((- 32767 - 1) rem (- 1))", "f(- 7 / 2)", "f(1 << 14)", "f(32767 >> 15)", "f(0 << 15)", "f(- 32767)", "f(~ (- 32767 - 1))", "f(- 1 & 32767 | - 5 xor 3 eqv 9)", "f(- 32767 < 32767)",
		"f(false -> 32767 + 1, 2)", "if false do f(32768)", "f(true) ; f('a') ; f(\"abc\") ; f(table(32767, - 32768)) ; f(slct(16, 0, 31))", "stop(32767)", "stop(- 32767 - 1)", "f(rdch() + rdch())", "f(muldiv(181, 181, 1)) ; f(muldiv(- 256, 128, 7)) ; f(muldiv(5, 7, - 32767))", "f(getvec(0)) ; f(getvec(15998))", "for i = 32765 to 32766 do f(i)", "for i = - 32767 to - 32767 by - 1 do",
		"switchon 32767 into { case 32767 : case - 32768 : default : }", "for i = 1 to 2 by 32766 do", "for i = 1 to - 1 by - 32768 do", "f(1 / 0)", "start()", "finish",
	)
	wantNarrow(t, false, forms,
		"f(32768)", "f(- 32768)", "f(32767 + 1)", "f(- 32767 - 2)", "f(16384 + 16384)", "f(182 * 181)", "f((- 257) * 128)", "f(- 256 * 128)", "f((- 32767 - 1) / (- 1))", "f(1 << 15)", "f(- 1 << 1)", "f(1 << 16)", "f(1 << (- 1))", "f(- 1 >> 1)", "f(0 >> 16)", "f(0 >> (- 1))", "f(- (- 32767 - 1))", "f(40000 & 1)", "f(65536)", "f(40000 = 1)", "f(0 * 65536)", "f(#ffff)",
		"f(table(1, 32768))", "f(table(1, - 32769))", "f(slct(16, 0, 32))", "stop(32768)", "stop(- 32769)", "f(muldiv(182, 181, 1))", "f(muldiv(182, 181, 100))", "f(muldiv(- 257, 128, 256))", "f(muldiv(- 256, 128, - 1))", "f(getvec(- 1))", "f(getvec(16000))", "getvec(0) ; f(getvec(15999))", "for i = 32766 to 32767 do if i = 32767 do { f(32767 - i) ; break } ; f(32768)", "for i = 32766 to 32767 do if i < 0 do break ; f(32768)",
		"switchon 1 into { case 1 : case 32768 : }", "switchon 1 into { case 2 : case - 32769 : }", "switchon 0 into { case 65536 : }", "for i = 1 to 0 by 32768 do", "for i = 1 to 2 by - 32769 do", "f(32768 / 0)", "f(slct(0, 0, 31) + slct(0, 0, 31))",
	)
	// The last turn of a loop goes beyond.
	wantNarrow(t, false, forms[2:], "for i = 32766 to 32767 do f(i)")
	wantNarrow(t, false, forms[:2], "for i = 32766 to 32767 do { f(i) ; if i < 0 do break }")
}

// P5.1: constants of manifests, statics and tables.
func TestNarrowConstants(t *testing.T) {
	for src, want := range map[string]bool{
		"static { s = 32767 ; r = - 32768 } let start() be":                  true,
		"static { s = 32768 } let start() be":                                false, // from the beginning
		"static { s = 1 } static { r = - 32769 } let start() be":             false,
		"manifest { m = 32768 } let start() be":                              true,
		"manifest { m = 32768 ; k = m - 1 } let start() = k":                 true,
		"manifest { m = 32768 } let start() = m":                             false,
		"manifest { m = 32768 } let start() = false -> m, 1":                 true,
		"manifest { m = 32768 } let start() be switchon 1 into { case m : }": false,
		"let start() be { let t = false -> table(32768), 1 }":                true,
		"let start() be { if false do switchon 1 into { case 32768 : } }":    true,
		"let start() be { if false do for i = 1 to 0 by 32768 do }":          true,
	} {
		s := mustParse(t, src)
		for _, f := range forms {
			if _, narrow, err := mean.Run(s, f, "", plenty); narrow != want || err != api.OK {
				t.Errorf("Run(%q) by %v: narrow %t, error %d", src, f, narrow, err)
			}
		}
	}
	// As far as a run comes.
	s := mustParse(t, "let start() be { f(1) ; f(32768) } let f(x) be")
	for fuel, want := range map[int]bool{0: true, 5: true, 8: true, 9: false, 100: false} {
		if _, narrow, err := mean.Run(s, forms[0], "", fuel); narrow != want || err != api.OK {
			t.Errorf("with fuel %d: narrow %t, error %d", fuel, narrow, err)
		}
	}
}

// P5.1: bytes, strings and selectors of narrow runs.
func TestNarrowObjects(t *testing.T) {
	wantNarrow(t, true, forms,
		"let s = \"abc\" ; for i = 0 to 3 do f(s % i) ; s % 3 := 'x' ; s % 0 := 2", "f(\"\" % 0)", "let v = vec 3 ; v % 0 := 1 ; v % 7 := 2 ; f(v % 7)", "let v = getvec(3) ; v % 1 := 300 ; f((v + 1 - 1) % 1)", "let x = ? ; (@ x) % 1 := 2 ; f((@ x) % 1)", "let v = vec 3 ; v ! 2 := 5 ; v ! 2 := ? ; v % 0 := 1",
		"let v = vec 3 ; v ! 2 := 5 ; f(v + 1 < v + 2) ; f(v + 1 - v) ; if v + 1 do ; f(v + 1 = 0) ; f(v + 1 ~= w)", "let s, t = \"abc\", \"abc\" ; f(s = t) ; f(s = s) ; f(s - s) ; if s do ; f(s ~= 0) ; f(s = w) ; f(s <= s) ; f(s + 1)", "let s = \"abc\" ; f((s + 1) + (- 1) - s)", "let v = vec 2 ; freevec(0) ; f(v = ( v -> \"a\", 0))",
		"let v = vec 1 ; v ! 0, v ! 1 := 0, 0 ; slct(4, 4, 0) of v := - 1 ; f(slct(4, 4, 0) of v) ; slct(7, 8, 1) of v := - 1 ; f(slct(8, 8, 1) of v) ; slct(0, 0, 0) of v := 32767 ; f(slct(0, 3, 0) of v) ; f(slct(16, 0, 0) of v) ; slct(0, 3, 1) of v := 4095 ; slct(16, 0, 0) of v := 5 ; slct(0, 16, 0) of v := 0",
		"let v = getvec(40) ; v ! 40 := 5 ; f(slct(4, 0, 40) of v) ; slct(4, 0, 40) of v := 7",
	)
	wantNarrow(t, false, forms,
		"let v = vec 3 ; (v + 1) % 0 := 1", "let v = vec 3 ; (v + 1) % (- 1) := 1", "let v = getvec(3) ; (v - 1) % 5 := 1", "let v = vec 3 ; v ! 3 := 5 ; v % 0 := 1", "let v = vec 3 ; v % 0 := 1 ; v ! 3 := w ; f(v % 0)", "let v = vec 3 ; v % 0 := 1 ; v ! 3 := 5 ; v % 0 := 6", "let v = vec 3 ; v ! 3 := v ; v % 0 := 1",
		"let s = \"abcd\" ; if s + 1 - s do", "let s = \"abcd\" ; if s + 1 do", "let s = \"abcd\" ; f(s + 1 = 0)", "let s = \"abcd\" ; f(0 ~= s + 1)", "let s = \"abcd\" ; f(s + 1 = w)", "let s = \"abcd\" ; f(s + 1 = \"abcd\")", "let s = \"abcd\" ; f(s < s + 1)", "let s = \"abcd\" ; f(s + 1 - s)", "let s = \"abcd\" ; f(s + 1 = s + 1)", "let s, v = \"abcd\", getvec(1) ; f(v = s + 1)",
		"let v = vec 1 ; v ! 0 := - 1 ; f(slct(4, 4, 0) of v)", "let v = vec 1 ; v ! 0 := - 1 ; f(slct(0, 0, 0) of v)", "let v = vec 1 ; v ! 0 := - 1 ; f(slct(0, 1, 0) of v)", "let v = vec 1 ; v ! 0 := - 1 ; slct(4, 4, 0) of v := 1", "let v = vec 1 ; v ! 0 := - 1 ; slct(0, 0, 0) of v := 1", "let v = vec 1 ; v ! 0 := 0 ; slct(0, 0, 0) of v := - 1", "let v = vec 1 ; v ! 0 := 0 ; slct(0, 3, 0) of v := 4096", "let v = vec 1 ; v ! 0 := 0 ; slct(0, 16, 0) of v := 1", "let v = vec 1 ; v ! 0 := 0 ; slct(8, 8, 0) of v := 128", "let v = vec 1 ; v ! 0 := 0 ; slct(16, 0, 0) of v := - 1",
	)
	// Behind the bytes of a string, where there are some.
	wantNarrow(t, false, forms[:2], "f(\"ab\" % 3)", "let s = \"ab\" ; s % 3 := 1")
	wantNarrow(t, false, forms[2:4], "f(\"abc\" % 4)", "f(\"abc\" % 5)")
	wantNarrow(t, false, forms[4:], "f(\"\" % 3)", "f(\"ab\" % 3)", "let s = \"abcd\" ; s % 7 := 1")
	wantNarrow(t, false, forms, "let s = \"abcd\" ; f((s + 1) % (- 1))", "let s = \"abcde\" ; (s + 1) % 0 := 1")
	// A wild run is not narrow.
	for _, f := range forms {
		if _, narrow, err := mean.Run(mustParse(t, "let start() be wrch(?)"), f, "", 100); narrow || err != api.OK {
			t.Errorf("narrow %t, error %d", narrow, err)
		}
	}
}
