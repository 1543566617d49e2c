package format

import (
	"fmt"
	"strings"
	"testing"

	"mullion/api"
)

func TestP101Comparisons(t *testing.T) {
	texts := []string{"", "a", "b", "ab", "aa", "A", "10", "9", "\x00", "\xff", "\x80", "a\x00", "window_name", "-1"}
	for _, a := range texts {
		for _, b := range texts {
			c := strings.Compare(a, b)
			for head, want := range map[string]bool{"==": c == 0, "!=": c != 0, "<": c < 0, ">": c > 0, "<=": c <= 0, ">=": c >= 0} {
				wantSays(t, "#{"+head+":"+a+","+b+"}", oneIf(want))
			}
		}
	}
	wantSays(t, "#{<:10,9}", "1")
	// The parts are expanded: a name is no value.
	wantSays(t, "#{==:window_index,3}", "0")
	wantSays(t, "#{==:#{window_index},3}", "1")
	wantSays(t, "#{==:#I,#{window_index}}", "1")
	wantSays(t, "#{==:a:b,a:b}", "1")
	wantSays(t, "#{==:,}", "1")
	wantSays(t, "#{!=:#{==:a,a},0}", "1")
}

func TestP101Junctions(t *testing.T) {
	truth := map[string]bool{"": false, "0": false, "1": true, "00": true, "empty": false, "no": false, "zeros": true, "a": true, "nothing": false, "#{empty}": false, "#I": true, "#{no}": false, " ": true, "long": true, "-": true}
	for a, isA := range truth {
		for b, isB := range truth {
			wantSays(t, "#{||:"+a+","+b+"}", oneIf(isA || isB))
			wantSays(t, "#{&&:"+a+","+b+"}", oneIf(isA && isB))
		}
		wantSays(t, "#{!:"+a+"}", oneIf(!isA))
	}
	// The second operand is looked at whatever the first is.
	for _, head := range []string{"||", "&&"} {
		for _, first := range []string{"1", "0"} {
			wantFault(t, "#{"+head+":"+first+",#{}}", api.ErrFormat)
			wantFault(t, "#{"+head+":"+first+",#{long}}", api.ErrLong)
		}
		wantFault(t, "#{"+head+":#{},1}", api.ErrFormat)
	}
	wantSays(t, "#{!:a,b}", "0")
	wantSays(t, "#{!:}", "1")
	wantSays(t, "#{!:#{!:1}}", "1")
	wantFault(t, "#{!:#{}}", api.ErrFormat)
	wantFault(t, "#{!!:a}", api.ErrFormat)
}

func TestP101Patterns(t *testing.T) {
	wantSays(t, "#{m:a*,#W}", "1")
	wantSays(t, "#{m:#W,a*}", "0")
	wantSays(t, "#{m:b*,#W}", "0")
	wantSays(t, "#{m:window_*,window_name}", "1") // both are expanded, no operands
	wantSays(t, "#{m:[a-c#,]#,,b#,}", "1")
	wantSays(t, "#{m:,}", "1")
	wantSays(t, "#{m:*,}", "1")
	wantSays(t, "#{m:?,}", "0")
	wantSays(t, "#{m:#{l:*},anything}", "1")
	wantSays(t, "#{m:\\*,*}", "1")
	wantSays(t, "#{m:\\*,a}", "0")
	wantSays(t, "#{m:*:*,a:b}", "1")
}

func TestP101Numbers(t *testing.T) {
	wantSays(t, "#{e|+|:window_index,4}", "7")
	wantSays(t, "#{e|/|:-7,2}", "-3")
	wantSays(t, "#{e|m|:-7,2}", "-1")
	wantSays(t, "#{e|<|:10,9}", "0")
	wantSays(t, "#{e|-|:minus,window_index}", "-43")
	wantSays(t, "#{e|*|:#{e|+|:1,2},#I}", "9")
	wantSays(t, "#{e|+|:most,0}", "4611686018427387904")
	numbers := []string{"0", "-0", "1", "-1", "2", "-2", "3", "7", "-7", "10", "999999999", "-2147483648", "2147483647", "2147483648", "-2147483649", "4294967296",
		"2305843009213693951", "2305843009213693952", "2305843009213693953", "-2305843009213693952", "-2305843009213693953", "4611686018427387903", "4611686018427387904", "-4611686018427387903", "-4611686018427387904"}
	for _, operator := range []string{"+", "-", "*", "/", "m", "==", "<", ">"} {
		for _, a := range numbers {
			for _, b := range numbers {
				hold(t, "#{e|"+operator+"|:"+a+","+b+"}", nil)
			}
		}
	}
	for a := -12; a <= 12; a++ {
		for b := -12; b <= 12; b++ {
			of := fmt.Sprintf("|:%d,%d}", a, b)
			wantSays(t, "#{e|+"+of, fmt.Sprint(a+b))
			wantSays(t, "#{e|-"+of, fmt.Sprint(a-b))
			wantSays(t, "#{e|*"+of, fmt.Sprint(a*b))
			wantSays(t, "#{e|=="+of, oneIf(a == b))
			wantSays(t, "#{e|<"+of, oneIf(a < b))
			wantSays(t, "#{e|>"+of, oneIf(a > b))
			if b != 0 {
				wantSays(t, "#{e|/"+of, fmt.Sprint(a/b))
				wantSays(t, "#{e|m"+of, fmt.Sprint(a%b))
			}
		}
	}
}

func TestP101TheBoundsOfNumbers(t *testing.T) {
	const most = "4611686018427387904"
	wantSays(t, "#{e|+|:4611686018427387903,1}", most)
	wantSays(t, "#{e|-|:-4611686018427387903,1}", "-"+most)
	wantSays(t, "#{e|*|:2305843009213693952,-2}", "-"+most)
	wantSays(t, "#{e|*|:-2147483648,-2147483648}", most)
	wantSays(t, "#{e|*|:-0,"+most+"}", "0")
	wantSays(t, "#{e|/|:-"+most+",-1}", most)
	wantSays(t, "#{e|/|:-0,5}", "0")
	wantSays(t, "#{e|m|:-4,2}", "0")
	wantSays(t, "#{e|==|:-0,0}", "1")
	wantSays(t, "#{e|+|:-0,-0}", "0")
	for _, f := range []string{"#{e|+|:" + most + ",1}", "#{e|+|:" + most + "," + most + "}", "#{e|+|:-" + most + ",-1}", "#{e|+|:-" + most + ",-" + most + "}",
		"#{e|-|:" + most + ",-1}", "#{e|-|:" + most + ",-" + most + "}", "#{e|-|:-" + most + ",1}", "#{e|-|:-" + most + "," + most + "}",
		"#{e|*|:" + most + ",2}", "#{e|*|:" + most + "," + most + "}", "#{e|*|:2147483648,2147483649}", "#{e|*|:4294967296,4294967296}", "#{e|*|:-4294967296,4294967297}", "#{e|*|:3,3074457345618258603}",
		"#{e|/|:1,0}", "#{e|m|:1,0}", "#{e|/|:0,-0}", "#{e|m|:0,-0}"} {
		wantFault(t, f, api.ErrFormat)
	}
}

func TestP101NoNumbers(t *testing.T) {
	for _, bad := range []string{"", "x", "01", "00", "-", "--1", "+1", "-01", "1 ", " 1", "1.0", "1e3", "0x1", "1_0", "４", "4611686018427387905", "-4611686018427387905", "9223372036854775808", "18446744073709551616", "99999999999999999999999", "#{empty}", "1-", strings.Repeat("1", 1000), strings.Repeat("0", 25)} {
		for _, operator := range []string{"+", "-", "*", "/", "m", "==", "<", ">"} {
			wantFault(t, "#{e|"+operator+"|:"+bad+",1}", api.ErrFormat)
			wantFault(t, "#{e|"+operator+"|:1,"+bad+"}", api.ErrFormat)
		}
	}
	wantFault(t, "#{e|+|:long,1}", api.ErrFormat)
	// Both operands come ahead of what they are as numbers.
	wantFault(t, "#{e|+|:x,#{long}}", api.ErrLong)
	wantFault(t, "#{e|+|:#{long},x}", api.ErrLong)
}

func TestP101TwoParts(t *testing.T) {
	for _, head := range []string{"==", "!=", "<", ">", "<=", ">=", "||", "&&", "m", "e|+|", "e|-|", "e|*|", "e|/|", "e|m|", "e|==|", "e|<|", "e|>|"} {
		wantSays(t, "#{?#{"+head+":8,3},x,x}", "x")
		for _, rest := range []string{"", "1", "1#,1", "1,1,1", ",,", "#{l:1,1}", "1,1,#{"} {
			wantFault(t, "#{"+head+":"+rest+"}", api.ErrFormat)
		}
		// The number of parts comes ahead of what they say.
		wantFault(t, "#{"+head+":#{long}}", api.ErrFormat)
		wantFault(t, "#{"+head+":#{long},1,1}", api.ErrFormat)
		// The first part's fault is the first one.
		wantFault(t, "#{"+head+":#{long},#{}}", api.ErrLong)
		wantFault(t, "#{"+head+":#{},#{long}}", api.ErrFormat)
	}
}

func TestP101HeadsThatAreNone(t *testing.T) {
	for _, head := range []string{"", "zz", "=", "===", "=<", "=>", "<>", "|", "&", "|||", "!=!", "e", "e|", "e||", "e|+", "e+", "e|%|", "e|<=|", "e|>=|", "e|!=|", "e|+|u", "u;e|+|", "M", "mm", "m;u", "!;u", "u;!", "l;u", "u;l", "L", " u", "u ", "x", "c", "a", "window_name", "#{u", "##", "#,", "é", "\x00"} {
		wantFault(t, "#{"+head+":a,1}", api.ErrFormat)
		// A head that is none comes ahead of what any part says.
		wantFault(t, "#{"+head+":#{long},#{long}}", api.ErrFormat)
	}
	wantSays(t, "#{?:a,1}", "1") // a choice, whatever it holds
}

func TestP101Literals(t *testing.T) {
	wantSays(t, "#{l:}", "")
	wantSays(t, "#{l:a}", "a")
	wantSays(t, "#{l:a:b;c,d##e#,#}#S}", "a:b;c,d##e#,#}#S")
	wantSays(t, "#{l:#{nonsense here}}", "#{nonsense here}")
	wantSays(t, "#{l:#{l:}}", "#{l:}")
	wantSays(t, "#{=2:#{l:window_name}}", "wi")
}
