package ellip_test

import (
	"math"
	"strings"
	"testing"

	"alidade/api"
	"alidade/ellip"
)

func checkParse(t *testing.T, s string) {
	t.Helper()
	want, ok := parsed(s)
	if got, gotOk := ellip.Parse(s); got != want || gotOk != ok {
		t.Errorf("Parse(%.200q) = %v, %t, want %v, %t", s, got, gotOk, want, ok)
	}
}

func TestP4_4_Text(t *testing.T) {
	for want, e := range map[string]api.Ellipse{
		"10,20/25,12,10": around(10, 20, sym(25, 12, 10)),
		"-4,0/1,0,1":     around(-4, 0, sym(1, 0, 1)),
		"0,-1/2,-1,2":    around(0, -1, sym(2, -1, 2)),
		"0,0/0,0,0":      {},
		"0,0/-1,0,0":     around(0, 0, sym(-1, 0, 0)),
		"4194304,-4194304/70368744177664,-70368744177663,70368744177664": around(api.MaxPos, -api.MaxPos, sym(api.MaxVar, 1-api.MaxVar, api.MaxVar)),
		"4194305,0/1,1,1": around(api.MaxPos+1, 0, sym(1, 1, 1)),
		"9223372036854775807,-9223372036854775808/-9223372036854775808,9223372036854775807,-9223372036854775807": around(math.MaxInt64, math.MinInt64, sym(math.MinInt64, math.MaxInt64, math.MinInt64+1)),
	} {
		if got := ellip.Text(e); got != want {
			t.Errorf("Text(%v) = %q, want %q", e, got, want)
		}
	}
}

func TestP4_4_ParseOfExamples(t *testing.T) {
	for s, want := range map[string]api.Ellipse{
		"10,20/25,12,10": around(10, 20, sym(25, 12, 10)),
		"-4,0/1,0,1":     around(-4, 0, sym(1, 0, 1)),
		"0,0/2,-1,1":     around(0, 0, sym(2, -1, 1)),
		"-4194304,4194304/70368744177664,70368744177663,70368744177664": around(-api.MaxPos, api.MaxPos, sym(api.MaxVar, api.MaxVar-1, api.MaxVar)),
	} {
		if got, ok := ellip.Parse(s); got != want || !ok {
			t.Errorf("Parse(%q) = %v, %t, want %v", s, got, ok, want)
		}
	}
}

func TestP4_4_ParseRefuses(t *testing.T) {
	for what, texts := range map[string][]string{
		"missing part":    {"", "/", ",/,,", "0", "0,0", "0,0/", "0,0/1", "0,0/1,0", "0,0/1,0,", "0,0/,0,1", ",0/1,0,1", "0,/1,0,1", "0/1,0,1", "/1,0,1", "1,0,1", "0,0/1,,1", "0,0/-,0,1"},
		"additional part": {"0,0/1,0,1,", "0,0/1,0,1,0", "0,0/1,0,1/", "0,0/1,0,1/0", "0,0,0/1,0,1", ",0,0/1,0,1", "/0,0/1,0,1", "0,0//1,0,1", "0,,0/1,0,1", "0,0/1,0,1;0,0/1,0,1", "0,0/1,0,1x", "x0,0/1,0,1", "0,0/1,0,1\x00"},
		"other marks":     {"0,0,1,0,1", "0/0,1,0,1", "0/0/1/0/1", "0,0/1/0,1", "0,0/1,0/1", "0;0/1,0,1", "0.0/1,0,1", "0,0|1,0,1", "0 0/1 0 1"},
		"sign":            {"+0,0/1,0,1", "0,0/+1,0,1", "0,0/1,0,+1", "-0,0/1,0,1", "0,-0/1,0,1", "0,0/1,-0,1", "--4,0/1,0,1", "4-,0/1,0,1", "\u22124,0/1,0,1"},
		"zero in front":   {"00,0/1,0,1", "0,0/01,0,1", "0,0/1,00,1", "0,0/1,0,01", "04,0/1,0,1", "-04,0/1,0,1"},
		"blank":           {" 0,0/1,0,1", "0,0/1,0,1 ", "0, 0/1,0,1", "0,0 /1,0,1", "0,0/ 1,0,1", "0,0/1,0,1\n", "\t0,0/1,0,1", " "},
		"other number":    {"0x1,0/1,0,1", "1e1,0/1,0,1", "1_0,0/1,0,1", "a,0/1,0,1", "0,0/1,0,1.0", "\u0661,0/1,0,1", "\uff11,0/1,0,1", "Inf,0/1,0,1"},
		"great number":    {"4194305,0/1,0,1", "0,-4194305/1,0,1", "0,0/70368744177665,0,1", "0,0/1,0,70368744177665", "0,0/70368744177664,70368744177665,70368744177664", "0,0/1,0,9223372036854775808", "0,0/1,0,99999999999999999999", "18446744073709551616,0/1,0,1", "0,0/18446744073709551617,0,1", "-18446744073709551616,0/1,0,1", "0,0/1,-9223372036854775809,1"},
		"not valid":       {"0,0/0,0,0", "0,0/1,1,1", "0,0/4,-6,9", "0,0/-4,0,-4", "0,0/0,0,1", "0,0/1,0,0", "0,0/70368744177664,70368744177664,70368744177664", "9223372036854775807,0/1,0,1", "0,0/-9223372036854775808,0,-9223372036854775808"},
		"long":            {strings.Repeat("0", 1<<20), strings.Repeat(",", 1<<20), "0,0/1,0,1" + strings.Repeat(",1", 1<<19), strings.Repeat("0", 1<<20) + ",0/1,0,1", "0,0/1,0," + strings.Repeat("9", 1<<20), "\xff\xfe,0/1,0,1"},
	} {
		for _, s := range texts {
			if got, ok := ellip.Parse(s); got != (api.Ellipse{}) || ok {
				t.Errorf("%s: Parse(%.200q) = %v, %t, want false", what, s, got, ok)
			}
		}
	}
}

// TestP4_4_ParseOfTextsBeside: those that differ from a Text by one byte, which is
// missing, additional, or another one.
func TestP4_4_ParseOfTextsBeside(t *testing.T) {
	for _, s := range []string{"10,20/25,12,10", "-4,0/1,0,1", "4194304,-4194304/70368744177664,-70368744177663,70368744177664", "0,0/2,-1,2"} {
		for i := range len(s) + 1 {
			for _, c := range "0123456789-+,/ _.ex\n" {
				checkParse(t, s[:i]+string(c)+s[i:])
				if i < len(s) {
					checkParse(t, s[:i]+string(c)+s[i+1:])
				}
			}
			if i < len(s) {
				checkParse(t, s[:i]+s[i+1:])
				checkParse(t, s[:i])
				checkParse(t, s[i:])
			}
		}
	}
}

func TestP4_5_ParseOfTextReturnsTheEllipse(t *testing.T) {
	for _, e := range append(smallEllipses(), validEllipses()...) {
		if got, ok := ellip.Parse(ellip.Text(e)); got != e || !ok {
			t.Errorf("Parse(Text(%v)) = %v, %t", e, got, ok)
		}
	}
	for _, e := range invalidEllipses() {
		if got, ok := ellip.Parse(ellip.Text(e)); got != (api.Ellipse{}) || ok {
			t.Errorf("Parse(Text(%v)) = %v, %t, want false", e, got, ok)
		}
	}
}
