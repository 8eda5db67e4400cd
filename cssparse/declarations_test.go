package cssparse

import "testing"

// P8.2, Style: the declarations out of tokens

func TestNamesAndValues(t *testing.T) {
	for _, x := range []struct{ s, want string }{
		{"", ""}, {" ", ""}, {";", ""}, {" ; /**/ ;; ", ""},
		{"a:b", `"a":"b"`},
		{"a:b;", `"a":"b"`},
		{";;a:b;;c:d;;", `"a":"b"; "c":"d"`},
		{" a : b ; c : d ", `"a":"b"; "c":"d"`},
		{"a/**/ /**/:/**/ /**/b/**/ /**/", `"a":"b"`},
		{"DIRECTION:RTL", `"direction":"RTL"`},
		{"--X-y:z", `"--x-y":"z"`},
		{"\\41 B:c", `"ab":"c"`},
		{"\u212A\u0130S:k", `"\u212a\u0130s":"k"`},
		{"a:b:c", `"a":"b:c"`},
		{"a::b", `"a":":b"`},
		{"a:b c", `"a":"b c"`},
		{"a:b  \n c", `"a":"b c"`},
		{"a:b/**/c", `"a":"b/**/c"`},
		{"a:b /**/ c", `"a":"b /**/ c"`},
		{"a:,", `"a":","`},
		{"a:1.5e3px 2% #1 #b", `"a":"1.5e3px 2% #1 #b"`},
		{"a:'b'", `"a":"\"b\""`},
		{"a:\"b", `"a":"\"b\""`},
		{"a:''", `"a":"\"\""`},
		{"a:@b", `"a":"@b"`},
		{"a:<!-- -->", `"a":"<!-- -->"`},
		{"a:\\", `"a":"\ufffd"`},
		{"a:\xFF;\xFF:a", `"a":"\ufffd"; "\ufffd":"a"`},
		{"a:b;a:c;A:d", `"a":"b"; "a":"c"; "a":"d"`},
		{"a", ""}, {"a;", ""}, {"a b", ""}, {"a b:c", ""}, {"a/**/b:c", ""}, {":", ""}, {":b", ""}, {"a(:b", ""}, {"a():b", ""}, {"1:b", ""}, {"#a:b", ""}, {"'a':b", ""}, {"*a:b", ""}, {"(a):b", ""}, {"{a:b}", ""}, {"[a]:b", ""}, {"<!--a:b", ""}, {"--> a:b", ""}, {"a=b", ""}, {"a;:b", ""}, {"a,b:c", ""}, {"a! :b", ""},
		{"a:", ""}, {"a: ", ""}, {"a:;", ""}, {"a: /**/ ;", ""}, {"a :", ""},
	} {
		holdStyle(t, x.s, x.want)
	}
}

func TestPiecesOfValues(t *testing.T) {
	for _, x := range []struct{ s, want string }{
		{"a:(b;c);d:e", `"a":"(b;c)"; "d":"e"`},
		{"a:[b;c];d:e", `"a":"[b;c]"; "d":"e"`},
		{"a:{b;c};d:e", `"a":"{b;c}"; "d":"e"`},
		{"a:f(b;c);d:e", `"a":"f(b;c)"; "d":"e"`},
		{"a:(b;[c;{d;f(;)}]);g:h", `"a":"(b;[c;{d;f(;)}])"; "g":"h"`},
		{"a:f((;););g:h", `"a":"f((;);)"; "g":"h"`},
		{"a:()[]{};b:c", `"a":"()[]{}"; "b":"c"`},
		{"a:{b}c:d;e:f", `"a":"{b}c:d"; "e":"f"`},
		{"a:(b;c", `"a":"(b;c"`},
		{"a:f(b;c", `"a":"f(b;c"`},
		{"a:[b;{c};d", `"a":"[b;{c};d"`},
		{"a:{b;(c);d", `"a":"{b;(c);d"`},
		{"a:((b);c:d", `"a":"((b);c:d"`},
		{"a:(];b);c:d", `"a":"(];b)"; "c":"d"`},
		{"a:(});b:c", `"a":"(})"; "b":"c"`},
		{"a:[)};];b:c", `"a":"[)};]"; "b":"c"`},
		{"a:{)];};b:c", `"a":"{)];}"; "b":"c"`},
		{"a:f(]});b:c", `"a":"f(]})"; "b":"c"`},
		{"a:({)};b:c", `"a":"({)};b:c"`},
		{"a:([)]);b:c", `"a":"([)])"; "b":"c"`},
		{"a:(]", `"a":"(]"`},
		{"a:};b:c", `"b":"c"`},
		{"a:);b:c", `"b":"c"`},
		{"a:];b:c", `"b":"c"`},
		{"a:b );c:d", `"c":"d"`},
		{"a:(b));c:d", `"c":"d"`},
		{"a:{b}};c:d", `"c":"d"`},
		{"a:[b]];c:d", `"c":"d"`},
		{"a:]b;c:d", `"c":"d"`},
		{"a:()]{};c:d", `"c":"d"`},
		{"a:) (;b:c", ""},
		{"a});b:c", `"b":"c"`},
		{"a:f();b:g()", `"a":"f()"; "b":"g()"`},
		{"a{b:c};d:e", `"d":"e"`},
		{"a{b:c}d:e;f:g", `"f":"g"`},
		{"a:'b\n;c:d", `"c":"d"`},
		{"a:b 'c\n d;e:f", `"e":"f"`},
		{"a:('b\n);c:d", `"c":"d"`},
		{"a:f([{\"b\n}]);c:d", `"c":"d"`},
		{"a:'b\n'c;d:e", ""},
		{"a:'b;c';d:e", `"a":"\"b;c\""; "d":"e"`},
		{"a:/*;*/b;c:d", `"a":"b"; "c":"d"`},
	} {
		holdStyle(t, x.s, x.want)
	}
}

func TestImportant(t *testing.T) {
	for _, x := range []struct{ s, want string }{
		{"a:b!important", `"a":"b"!`},
		{"a:b !important", `"a":"b"!`},
		{"a:b ! important ", `"a":"b"!`},
		{"a:b /**/ !/**/ \n /**/important /**/ ;c:d", `"a":"b"!; "c":"d"`},
		{"a:b!IMPORTANT", `"a":"b"!`},
		{"a:b!iMpOrTaNt", `"a":"b"!`},
		{"a:b!\\69mportant", `"a":"b"!`},
		{"a:b c !important", `"a":"b c"!`},
		{"a:(b)!important", `"a":"(b)"!`},
		{"a:important!important", `"a":"important"!`},
		{"a:!!important", `"a":"!"!`},
		{"a:b!important!important", `"a":"b/**/!/**/important"!`},
		{"a:b !important !important", `"a":"b !/**/important"!`},
		{"a:!important!important", `"a":"!/**/important"!`},
		{"a:!important", ""}, {"a: ! important ", ""}, {"a:!important;b:c", `"b":"c"`}, {"a:b;!important", `"a":"b"`}, {"a!important:b", ""},
		{"a:!", `"a":"!"`},
		{"a:important", `"a":"important"`},
		{"a:b important", `"a":"b important"`},
		{"a:b!", `"a":"b/**/!"`},
		{"a:b!importan", `"a":"b/**/!/**/importan"`},
		{"a:b!importants", `"a":"b/**/!/**/importants"`},
		{"a:b!\u0130mportant", `"a":"b/**/!/**/\u0130mportant"`},
		{"a:b!important c", `"a":"b/**/!/**/important c"`},
		{"a:b!important,", `"a":"b/**/!/**/important,"`},
		{"a:b!important()", `"a":"b/**/!/**/important()"`},
		{"a:b!'important'", `"a":"b/**/!\"important\""`},
		{"a:b!#important", `"a":"b/**/!#important"`},
		{"a:b!@important", `"a":"b/**/!@important"`},
		{"a:b!,important", `"a":"b/**/!,important"`},
		{"a:b'!'important", `"a":"b\"!\"important"`},
		{"a:(b!important)", `"a":"(b/**/!/**/important)"`},
		{"a:(!important)!important", `"a":"(!/**/important)"!`},
		{"a:)!important", ""},
		{"a:'b\n!important", ""},
	} {
		holdStyle(t, x.s, x.want)
	}
}

// The chapter says of the last tokens, not of the last pieces, what they are.
func TestTheEndOfAValueWithinAPieceThatIsNotClosed(t *testing.T) {
	for _, x := range []struct{ s, want string }{
		{"a:(b ", `"a":"(b"`},
		{"a:f( ", `"a":"f("`},
		{"a:(b !important", `"a":"(b"!`},
		{"a:{!important ", `"a":"{"!`},
		{"a:[;! IMPORTANT", `"a":"[;"!`},
	} {
		holdStyle(t, x.s, x.want)
		holdParse(t, "x{"+x.s, `"x"{`+x.want+`}`)
	}
}

func TestAtRulesAmongDeclarations(t *testing.T) {
	for _, x := range []struct{ s, want string }{
		{"@m;a:b", `"a":"b"`},
		{"@m a:b;c:d", `"c":"d"`},
		{"@m{a:b}c:d", `"c":"d"`},
		{"@m x:y (;) [;] f(;) {a:b;c:d} e:f", `"e":"f"`},
		{"@m ({});a:b", `"a":"b"`},
		{"@m{a:b};c:d", `"c":"d"`},
		{"@m{;}]a:b;c:d", `"c":"d"`},
		{"@m ) ];a:b", `"a":"b"`},
		{"@m {)}a:b", `"a":"b"`},
		{"@m{a:b;c:d", ""},
		{"@m (a;b{c}d:e", ""},
		{"@m a:b", ""},
		{"@m", ""}, {"@m;", ""}, {"@m{}", ""},
		{"@m;@n{}@o;a:b", `"a":"b"`},
		{"a:b;@m c;d:e;@n{f:g}h:i;@o", `"a":"b"; "d":"e"; "h":"i"`},
		{"a:b @m{c;d} e;f:g", `"a":"b @m{c;d} e"; "f":"g"`},
		{"a @m{c:d} e:f;g:h", `"g":"h"`},
		{"@ m;a:b", `"a":"b"`},
		{"@1{a:b}c:d;e:f", `"e":"f"`},
		{";@m;;a:b", `"a":"b"`},
	} {
		holdStyle(t, x.s, x.want)
		holdParse(t, "x{"+x.s, `"x"{`+x.want+`}`)
	}
	holdStyle(t, "@m{;}}a:b;c:d", `"c":"d"`)
	holdStyle(t, "@m } ;a:b", `"a":"b"`)
}
