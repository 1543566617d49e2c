package format

import (
	"strings"
	"testing"

	"mullion/api"
)

func TestP101PlainTexts(t *testing.T) {
	for _, text := range []string{"", "a", "a b", ",", "}", "{", "a,b}c{d", "{}", "?a,b", "==:a,b", "window_name", "\x00\n\xff\x80é", ":;|&!"} {
		wantSays(t, text, text)
	}
	for b := range 256 {
		if b != '#' {
			text := string([]byte{byte(b)})
			wantSays(t, text, text)
			wantSays(t, "x"+text+text+"y", "x"+text+text+"y")
		}
	}
}

func TestP101EscapedBytes(t *testing.T) {
	wantSays(t, "##", "#")
	wantSays(t, "#,", ",")
	wantSays(t, "#}", "}")
	wantSays(t, "####", "##")
	wantSays(t, "##I", "#I")
	wantSays(t, "###I", "#3")
	wantSays(t, "##{window_name}", "#{window_name}")
	wantSays(t, "###{window_name}", "#a/b")
	wantSays(t, "a##b#,c#}d", "a#b,c}d")
	wantSays(t, "##,", "#,")
	wantSays(t, "###,", "#,")
	wantSays(t, "#}}", "}}")
}

func TestP101ShortForms(t *testing.T) {
	wantSays(t, "#S", "work")
	wantSays(t, "#W", "a/b")
	wantSays(t, "#I", "3")
	wantSays(t, "#P", "12")
	wantSays(t, "#D", "%7")
	wantSays(t, "#F", "*Z")
	wantSays(t, "#I:#W", "3:a/b")
	wantSays(t, "#S#S", "workwork")
	wantSays(t, "#SS", "workS")
	short := "SWIPDF"
	for i := range len(short) {
		if got := expanded("<#"+short[i:i+1]+">", nil); got != (answer{"<>", api.OK}) {
			t.Errorf("#%c without its variable says %v", short[i], got)
		}
	}
}

func TestP101OtherBytesBehindAHash(t *testing.T) {
	wantSays(t, "#", "#")
	wantSays(t, "a#", "a#")
	wantSays(t, "#x}", "#x}")
	for b := range 256 {
		if strings.IndexByte("#,}{SWIPDF", byte(b)) >= 0 {
			continue
		}
		text := "#" + string([]byte{byte(b)})
		wantSays(t, text, text)
		wantSays(t, "a"+text+"#", "a"+text+"#")
		wantSays(t, text+"#I", text+"3")
		wantSays(t, "#{?1,"+text+"}", text)
	}
}

func TestP101PlacesByIdentifier(t *testing.T) {
	wantSays(t, "#{window_name}", "a/b")
	wantSays(t, "<#{window_name}#{window_index}>", "<a/b3>")
	wantSays(t, "#{empty}", "")
	wantSays(t, "#{nothing}", "")
	wantSays(t, "#{twice}", "first")
	wantSays(t, "#{a}", "Zz")
	// What a value says is not looked at.
	wantSays(t, "#{hash}", "#{empty},##}")
	wantSays(t, "#{?hash,#{hash},no}", "#{empty},##}")
}

func TestP101WhatIsAnIdentifier(t *testing.T) {
	long := "a" + strings.Repeat("z_9", 10) + "b"
	vars := []api.Var{{Name: long, Value: "v"}, {Name: long + "c", Value: "w"}, {Name: "1a", Value: "w"}, {Name: "_a", Value: "w"}, {Name: "A", Value: "w"}, {Name: "a-b", Value: "w"}, {Name: "", Value: "w"}, {Name: "a b", Value: "w"}}
	if len(long) != api.MaxName {
		t.Fatal(len(long))
	}
	if got := expanded("#{"+long+"}", vars); got != (answer{"v", api.OK}) {
		t.Errorf("32 bytes: %v", got)
	}
	for _, v := range vars[1:] {
		if got := expanded("#{"+v.Name+"}", vars); got != (answer{"", api.ErrFormat}) {
			t.Errorf("%q is no identifier, but says %v", v.Name, got)
		}
		// As an operand it is expanded, and says itself.
		if got := expanded("#{u;w;=99:"+v.Name+"}", vars); got != (answer{strings.ToLower(v.Name), api.OK}) {
			t.Errorf("%q as an operand: %v", v.Name, got)
		}
	}
	for b := range 256 {
		one := string([]byte{byte(b)})
		vars := []api.Var{{Name: one, Value: "first"}, {Name: "a" + one, Value: "second"}, {Name: "a" + one + "z", Value: "third"}}
		for _, v := range vars {
			hold(t, "#{"+v.Name+"}", vars)
			hold(t, "#{=4:"+v.Name+"}", vars)
		}
	}
}

func TestP101NoPlace(t *testing.T) {
	for _, f := range []string{"#{}", "#{a b}", "#{ a}", "#{a }", "#{A}", "#{1}", "#{_a}", "#{a-b}", "#{#a}", "#{##}", "#{#,}", "#{#}}", "#{#I}", "#{#{a}}", "#{a,b}", "#{=}", "#{!}", "#{é}", "#{\x00}", "#{a#}}", "#{-}", "#{,}", "#{;}", "#{{}"} {
		wantFault(t, f, api.ErrFormat)
		wantFault(t, "a"+f+"b", api.ErrFormat)
	}
	wantSays(t, "#{l}}", "}") // l is an identifier here, and the last brace says itself
}

func TestP101PlacesWithoutAnEnd(t *testing.T) {
	for _, f := range []string{"#{", "#{a", "a#{", "#{a#}", "#{?a,b", "#{l:#{x}", "#{#{a}", "#{?1,#{a}", "#{a##}}#{", "#{==:a,#}", "#{b:#{", "##{#{", "#{#{#{}}"} {
		wantFault(t, f, api.ErrFormat)
	}
}

func TestP101WhereAPlaceEnds(t *testing.T) {
	wantSays(t, "#{a}}", "Zz}")
	wantSays(t, "#{l:a#}b}}", "a#}b}")
	wantSays(t, "#{l:a##}b}", "a##b}")
	wantSays(t, "#{l:a###}b}c", "a###}bc")
	wantSays(t, "#{l:#{}}x", "#{}x")
	wantSays(t, "#{l:#{#{}#{}}a}b", "#{#{}#{}}ab")
	wantSays(t, "#{l:{}a}", "{a}")
	wantSays(t, "#{l:##{}a}", "##{a}")
	wantSays(t, "#{l:#,}a}", "#,a}")
	wantFault(t, "#{l:#S#x#}#}", api.ErrFormat) // each brace is passed over
}

func TestP101Choices(t *testing.T) {
	wantSays(t, "#{?window_zoomed_flag,Z,-}", "Z")
	wantSays(t, "#{?window_zoomed_flag,Z}", "Z")
	wantSays(t, "#{?empty,x}", "")
	wantSays(t, "#{?empty,x,y}", "y")
	wantSays(t, "#{?nothing,x,y}", "y")
	wantSays(t, "#{?no,x,y}", "y")
	wantSays(t, "#{?zeros,x,y}", "x")
	wantSays(t, "#{?#{==:#I,3},yes#, three,no}", "yes, three")
	wantSays(t, "#{?,x,y}", "y")
	wantSays(t, "#{?0,x,y}", "y")
	wantSays(t, "#{?1,x,y}", "x")
	wantSays(t, "#{?00,x,y}", "x")
	wantSays(t, "#{?-,x,y}", "x")
	wantSays(t, "#{?#I,x,y}", "x")
	wantSays(t, "#{?#{no},x,y}", "y")
	wantSays(t, "#{?#{empty},x,y}", "y")
	wantSays(t, "#{? ,x,y}", "x")
	wantSays(t, "#{?long,x,y}", "x") // an operand may be longer than MaxText
	wantSays(t, "#{?1,,y}", "")
	wantSays(t, "#{?0,x,}", "")
	wantSays(t, "#{?1,}", "")
	wantSays(t, "#{?,,}", "")
	wantSays(t, "a#{?1,#{?0,x,#{a}},y}b", "aZzb")
	// A second or third part is no operand.
	wantSays(t, "#{?1,a,b}", "a")
	wantSays(t, "#{?0,a,a}", "a")
	wantSays(t, "#{?1,?a:b,y}", "?a:b")
}

func TestP101AWrongNumberOfParts(t *testing.T) {
	for _, f := range []string{"#{?a}", "#{?}", "#{?a,b,c,d}", "#{?,,,}", "#{?a#,b}", "#{?#{a,b}}", "#{?1,#{?}}"} {
		wantFault(t, f, api.ErrFormat)
	}
}

func TestP101ThePartThatIsNotChosen(t *testing.T) {
	for _, bad := range []string{"#{nonsense here}", "#{}", "#{?a}", "#{zz:a}", "#{e|/|:1,0}", strings.Repeat("x", 1025), "#{long}", "#{p2000:a}", strings.Repeat("#{?1,", 30) + strings.Repeat("}", 30)} {
		wantSays(t, "#{?empty,"+bad+",x}", "x")
		wantSays(t, "#{?empty,"+bad+"}", "")
		wantSays(t, "#{?1,x,"+bad+"}", "x")
		if got := expanded("#{?1,"+bad+",x}", variables()); got.err == api.OK || got.said != "" {
			t.Errorf("%q chosen: %v", shorter(bad), got)
		}
	}
	wantFault(t, "#{?empty,#{,x}", api.ErrFormat)
}

func TestP101Cuts(t *testing.T) {
	wantSays(t, "#{?1,a#,b,c}", "a,b")
	wantSays(t, "#{?1,#,#,,#,}", ",,")
	wantSays(t, "#{?1,##,c}", "#")
	wantSays(t, "#{?1,###,,c}", "#,")
	wantSays(t, "#{?1,#{?0,x,y},c}", "y")
	wantSays(t, "#{?#{?0,0,1},#{l:a,b},c}", "a,b")
	wantSays(t, "#{?1,#{l:#{,}},c}", "#{,}")
	wantSays(t, "#{?1,#{l:#},},c}", "#},")
	wantSays(t, "#{?1,##{,b}", "#{")
	wantSays(t, "#{?1,#S#x,b}", "work#x")
	wantSays(t, "#{==:#,,#,}", "1")
	wantSays(t, "#{==:#{l:,},#,}", "1")
	wantSays(t, "#{||:#{l:,},}", "1")
	wantSays(t, "#{&&:#,,#,}", "1")
	wantSays(t, "#{m:*#,*,a#,b}", "1")
	// What has no parts is not cut.
	wantSays(t, "#{l:a,b,c}", "a,b,c")
	wantSays(t, "#{!:a,b}", "0")
	wantSays(t, "#{u:x,y,z}", "X,Y,Z")
	wantSays(t, "#{n:,,,}", "3")
}
