package charref

// name is a name of a character; bare: it stands without ; too.
type name struct {
	word string
	char rune
	bare bool
}

const (
	nameCount = 59
	longest   = 6 // letters of a name
)

// names are all names, rising, so that they can be searched by halves.
func names() [nameCount]name {
	return [nameCount]name{
		{"AMP", 0x0026, true}, {"COPY", 0x00A9, true}, {"GT", 0x003E, true}, {"LT", 0x003C, true}, {"QUOT", 0x0022, true},
		{"REG", 0x00AE, true}, {"amp", 0x0026, true}, {"apos", 0x0027, false}, {"bull", 0x2022, false}, {"cent", 0x00A2, true},
		{"copy", 0x00A9, true}, {"darr", 0x2193, false}, {"deg", 0x00B0, true}, {"divide", 0x00F7, true}, {"emsp", 0x2003, false},
		{"ensp", 0x2002, false}, {"euro", 0x20AC, false}, {"ge", 0x2265, false}, {"gt", 0x003E, true}, {"hellip", 0x2026, false},
		{"in", 0x2208, false}, {"infin", 0x221E, false}, {"lang", 0x27E8, false}, {"laquo", 0x00AB, true}, {"larr", 0x2190, false},
		{"ldquo", 0x201C, false}, {"le", 0x2264, false}, {"lrm", 0x200E, false}, {"lsaquo", 0x2039, false}, {"lsquo", 0x2018, false},
		{"lt", 0x003C, true}, {"mdash", 0x2014, false}, {"middot", 0x00B7, true}, {"minus", 0x2212, false}, {"nbsp", 0x00A0, true},
		{"ndash", 0x2013, false}, {"ne", 0x2260, false}, {"not", 0x00AC, true}, {"notin", 0x2209, false}, {"para", 0x00B6, true},
		{"plusmn", 0x00B1, true}, {"pound", 0x00A3, true}, {"quot", 0x0022, true}, {"rang", 0x27E9, false}, {"raquo", 0x00BB, true},
		{"rarr", 0x2192, false}, {"rdquo", 0x201D, false}, {"reg", 0x00AE, true}, {"rlm", 0x200F, false}, {"rsaquo", 0x203A, false},
		{"rsquo", 0x2019, false}, {"sect", 0x00A7, true}, {"shy", 0x00AD, true}, {"thinsp", 0x2009, false}, {"times", 0x00D7, true},
		{"uarr", 0x2191, false}, {"yen", 0x00A5, true}, {"zwj", 0x200D, false}, {"zwnj", 0x200C, false},
	}
}
