package format

import (
	"strings"
	"testing"

	"mullion/api"
)

func letterX(n int) string { return strings.Repeat("x", n) }

func TestP101TooLong(t *testing.T) {
	full := letterX(1024)
	wantSays(t, full, full)
	wantFault(t, full+"x", api.ErrLong)
	wantFault(t, full+"#", api.ErrLong)
	wantFault(t, full+"##", api.ErrLong)
	wantFault(t, full+"#,", api.ErrLong)
	wantFault(t, full+"#z", api.ErrLong)
	wantFault(t, full+"#I", api.ErrLong)
	wantFault(t, full+"#{a}", api.ErrLong)
	wantFault(t, full+"#{l:x}", api.ErrLong)
	wantFault(t, full+"#{?1,x}", api.ErrLong)
	wantFault(t, full+"#{==:a,b}", api.ErrLong)
	wantSays(t, full+"#{empty}#{?0,x}#{l:}#{=0:a}", full)
	wantSays(t, full[:1023]+"#I", full[:1023]+"3")
	wantSays(t, full[:1023]+"##", full[:1023]+"#")
	wantSays(t, strings.Repeat("##", 1024), strings.Repeat("#", 1024))
	wantFault(t, strings.Repeat("##", 1025), api.ErrLong)
	wantSays(t, "#{l:"+full+"}", full)
	wantFault(t, "#{l:"+full+"x}", api.ErrLong)
	wantFault(t, "#{long}", api.ErrLong)
	wantSays(t, "#{?1,"+full+"}", full)
	wantFault(t, "#{?1,"+full+"x}", api.ErrLong)
	wantFault(t, "#{?"+full+"x,a,b}", api.ErrLong)
	wantSays(t, "#{?"+full+",a,b}", "a")
	for _, head := range []string{"==", "<", "m"} {
		wantFault(t, "#{"+head+":"+full+"x,a}", api.ErrLong)
		wantFault(t, "#{"+head+":a,"+full+"x}", api.ErrLong)
		wantSays(t, "#{n:#{"+head+":"+full+","+full+"}}", "1")
	}
	for _, head := range []string{"||", "&&"} {
		wantFault(t, "#{"+head+":-"+full+",a}", api.ErrLong)
		wantFault(t, "#{"+head+":a,-"+full+"}", api.ErrLong)
		wantSays(t, "#{"+head+":long,long}", "1")
	}
	wantSays(t, "#{!:long}", "0")
	wantFault(t, "#{!:-"+full+"}", api.ErrLong)
}

func TestP101LongValues(t *testing.T) {
	for _, n := range []int{1023, 1024, 1025, 5000} {
		value := letterX(n)
		vars := []api.Var{{Name: "v", Value: value}, {Name: "window_name", Value: value}}
		for _, f := range []string{"#{v}", "#W", "#{?1,#{v}}", "#{?v,a}", "a#{v}", "#{v}#{", "#{=3:v}", "#{=1024:v}", "#{n:v}", "#{u:v}", "#{p3:v}", "#{p-3:v}", "#{b:v}", "#{d:v}", "#{s/x//:v}", "#{s/x/y/:v}", "#{s/xxxxx/y/:v}", "#{=1025:v}", "#{=-1024;u:v}", "#{!:v}", "#{||:v,v}", "#{==:#{v},v}", "#{e|+|:v,1}"} {
			hold(t, f, vars)
		}
	}
	if got := expanded("#{=3:v}", []api.Var{{Name: "v", Value: letterX(5000)}}); got != (answer{"xxx", api.OK}) {
		t.Errorf("a long value, cut: %v", got)
	}
}

// nested puts a text into n places of one kind.
func nested(ahead, text, behind string, n int) string {
	return strings.Repeat(ahead, n) + text + strings.Repeat(behind, n)
}

func TestP101TooDeep(t *testing.T) {
	for _, c := range []struct{ ahead, text, behind, want string }{
		{"#{?1,", "x", "}", "x"}, {"#{?1,", "x", ",y}", "x"}, {"#{?0,y,", "x", "}", "x"}, {"#{?", "1", ",1,0}", "1"}, {"#{?", "0", ",1,0}", "0"},
		{"#{==:", "1", ",1}", "1"}, {"#{==:1,", "1", "}", "1"}, {"#{!=:", "1", ",0}", "1"}, {"#{m:*,", "1", "}", "1"}, {"#{m:", "1", ",1}", "1"},
		{"#{||:", "1", ",0}", "1"}, {"#{||:0,", "1", "}", "1"}, {"#{&&:", "1", ",1}", "1"}, {"#{e|+|:", "0", ",1}", "16"}, {"#{e|+|:1,", "0", "}", "16"},
		{"#{!:", "1", "}", "1"}, {"#{p2:", "1", "}", "1 "}, {"#{=2;u:", "-x", "}", "-X"}, {"#{n:", "1", "}", "1"},
	} {
		wantSays(t, nested(c.ahead, c.text, c.behind, 16), c.want)
		wantFault(t, nested(c.ahead, c.text, c.behind, 17), api.ErrDeep)
		wantFault(t, nested(c.ahead, c.text, c.behind, 60), api.ErrDeep)
		// What stands in a text of depth 16: no place, whatever is in it; all else.
		for _, place := range []string{"#{a}", "#{}", "#{zz:a}", "#{l:a}", "#{?}", "#{long}"} {
			wantFault(t, nested(c.ahead, place, c.behind, 16), api.ErrDeep)
		}
		wantFault(t, nested(c.ahead, "#{", c.behind, 16), api.ErrFormat)
		hold(t, nested(c.ahead, "#I##", c.behind, 16), variables())
		hold(t, nested(c.ahead, "no", c.behind, 16), variables())
		hold(t, nested(c.ahead, "#{a}", c.behind, 15), variables())
		wantFault(t, nested(c.ahead, c.text, c.behind, 17)[1:]+"#{", api.ErrFormat)
	}
	// Side by side is not in one another.
	wantSays(t, strings.Repeat("#{?1,x}", 100), strings.Repeat("x", 100))
	wantSays(t, strings.Repeat(nested("#{?1,", "x", "}", 16), 20), strings.Repeat("x", 20))
	// What is not looked at may be as deep as it likes.
	deep := nested("#{?1,", "x", "}", 1000)
	wantSays(t, "#{?0,"+deep+"}", "")
	wantSays(t, nested("#{?1,", "x", ","+deep+"}", 16), "x")
	wantSays(t, "#{n:#{l:"+deep[:len("#{?1,")*100]+strings.Repeat("}", 100)+"}}", "600")
}

func TestP101WhichFaultIsFirst(t *testing.T) {
	over := letterX(1025)
	deep := nested("#{?1,", "x", "}", 17)
	faults := map[string]api.Errno{over: api.ErrLong, "#{long}": api.ErrLong, "#{}": api.ErrFormat, "#{zz:a}": api.ErrFormat, "#{?1}": api.ErrFormat, deep: api.ErrDeep, "#{p2000:a}": api.ErrLong, "#{e|/|:1,0}": api.ErrFormat}
	for one, first := range faults {
		for two, second := range faults {
			wantFault(t, one+two, first)
			wantFault(t, "ab"+one+"cd"+two, first)
			wantFault(t, "#{?1,"+one+","+two+"}", first)
			wantFault(t, "#{?0,"+one+","+two+"}", second)
			wantFault(t, "#{?"+one+",a,"+two+"}", first)
			wantFault(t, "#{e|+|:-"+one+","+two+"}", first)
			wantFault(t, "#{?1,"+one+"}"+two, first)
			wantFault(t, two+"#{?1,"+one+"}", second)
		}
		// A place without an end is found where it begins, not ahead of that.
		wantFault(t, one+"#{", first)
		wantFault(t, "#{"+one, api.ErrFormat)
		wantFault(t, letterX(1024)+one, first)
	}
	wantFault(t, letterX(1024)+"#{", api.ErrFormat)
	wantFault(t, letterX(1025)+"#{", api.ErrLong)
	wantFault(t, "#{?a,"+over+",b,c}", api.ErrFormat)
	wantFault(t, "#{?"+over+"}", api.ErrFormat)
	wantFault(t, "#{zz:"+over+"}", api.ErrFormat)
	wantFault(t, "#{u;zz:"+over+"}", api.ErrFormat)
	// The operand's fault comes ahead of the turns'.
	wantFault(t, "#{p2000:#{}}", api.ErrFormat)
	wantFault(t, "#{p2000:"+deep[:len(deep)-1]+"}}", api.ErrDeep)
}
