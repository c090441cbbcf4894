package dir_test

import (
	"slices"
	"strings"
	"testing"

	"janus/api"
	"janus/dir"
)

func wantSplit(t *testing.T, path string, want []string, e api.Errno) {
	t.Helper()
	if got, err := dir.Split(path); err != e || !slices.Equal(got, want) {
		t.Fatalf("Split(%q) = %q, %d, want %q, %d", path, got, err, want, e)
	}
}

func TestSplitAtSlashes(t *testing.T) {
	for _, x := range []struct {
		path string
		want []string
	}{
		{"/", nil}, {"//", nil}, {"///", nil}, {strings.Repeat("/", 31), nil}, {strings.Repeat("/", 32), nil},
		{"a", []string{"a"}}, {"/a", []string{"a"}}, {"a/", []string{"a"}}, {"/a/", []string{"a"}},
		{"//a", []string{"a"}}, {"a//", []string{"a"}}, {"///a///", []string{"a"}},
		{"a/b", []string{"a", "b"}}, {"a//b", []string{"a", "b"}}, {"a////b", []string{"a", "b"}},
		{"//a/b/", []string{"a", "b"}}, {"/a//b///c////", []string{"a", "b", "c"}},
		{"ab/cd/ab", []string{"ab", "cd", "ab"}}, {"/a/a/a", []string{"a", "a", "a"}},
		{".", []string{"."}}, {"..", []string{".."}}, {"/./../...", []string{".", "..", "..."}},
		{" ", []string{" "}}, {" / ", []string{" ", " "}}, {"\\/\n/\t", []string{"\\", "\n", "\t"}},
		{"a\\b/c:d", []string{"a\\b", "c:d"}}, {"\x01/\x7f", []string{"\x01", "\x7f"}},
		{"/0/00", []string{"0", "00"}}, {"-/*", []string{"-", "*"}},
	} {
		wantSplit(t, x.path, x.want, api.OK)
	}
	wantSplit(t, "", nil, api.ENOENT)
}

// A path of each length, of short parts and of slashes alone; above 32 bytes it is too long, whatever is in it.
func TestSplitOfEachLength(t *testing.T) {
	for n := 1; n <= 70; n++ {
		path := strings.Repeat("/a", 40)[:n]
		var want []string
		for range n / 2 {
			want = append(want, "a")
		}
		e := api.OK
		if n > 32 {
			want, e = nil, api.ENAMETOOLONG
		}
		wantSplit(t, path, want, e)
		wantSplit(t, strings.Repeat("/", n), nil, e)
	}
	for _, path := range []string{
		"abcdefg/abcdefg/abcdefg/abcdefg",   // 31
		"abcdefg/abcdefg/abcdefg/abcdefgh",  // 32
		"/abcdefg/abcdefg/abcdefg/abcdefg",  // 32
		"abcdefg/abcdefg/abcdefg/abcdefg/",  // 32
		"abcdefgh/abcdef/abcdefgh/abcdefg/", // 33
		"/abcdefg/abcdefg/abcdefg/abcdefgh", // 33
		"a" + strings.Repeat("/", 32),       // 33
		strings.Repeat("/", 32) + "a",       // 33
		strings.Repeat("\x00", 33),
		"a\x00" + strings.Repeat("/b", 16),
		strings.Repeat("a", 1000),
		strings.Repeat("/a", 100000),
		strings.Repeat("\x00", 1<<20),
	} {
		if len(path) > 32 {
			wantSplit(t, path, nil, api.ENAMETOOLONG)
		} else {
			wantSplit(t, path, strings.FieldsFunc(path, func(r rune) bool { return r == '/' }), api.OK)
		}
	}
}

// The path's length is one of bytes, not of runes.
func TestSplitCountsBytes(t *testing.T) {
	eight, nine := "ééèè", "€€€" // 4 runes, 3 runes
	wantSplit(t, eight, []string{eight}, api.OK)
	wantSplit(t, nine, nil, api.ENAMETOOLONG)
	wantSplit(t, "/"+nine+"/a", nil, api.ENAMETOOLONG)
	wantSplit(t, "a/€€ab/é", []string{"a", "€€ab", "é"}, api.OK)
	wantSplit(t, strings.Repeat("é/", 10)+"ab", append(slices.Repeat([]string{"é"}, 10), "ab"), api.OK) // 32 bytes, 22 runes
	wantSplit(t, strings.Repeat("é/", 11), nil, api.ENAMETOOLONG)                                       // 33 bytes, 22 runes
	wantSplit(t, "😀😀", []string{"😀😀"}, api.OK)                                                          // 8 bytes
	wantSplit(t, "😀😀/😀😀/😀/😀/😀", []string{"😀😀", "😀😀", "😀", "😀", "😀"}, api.OK)                            // 32 bytes
	wantSplit(t, "/😀😀/😀😀/😀/😀/😀", nil, api.ENAMETOOLONG)                                                 // 33 bytes
	wantSplit(t, "\u2215\u2044/\uff0f", []string{"\u2215\u2044", "\uff0f"}, api.OK)                     // signs that look like slashes
	wantSplit(t, "\u012f/\u2f2f", []string{"\u012f", "\u2f2f"}, api.OK)                                 // numbers that end in a slash's
	wantSplit(t, "\u0100\u2000/\U00010000", []string{"\u0100\u2000", "\U00010000"}, api.OK)             // numbers that end in 0
	wantSplit(t, "\ufffd/\ufffd\ufffd", []string{"\ufffd", "\ufffd\ufffd"}, api.OK)                     // the sign that stands for broken ones
	wantSplit(t, "\ufeffa/\u00a0/\u2028", []string{"\ufeffa", "\u00a0", "\u2028"}, api.OK)              // signs that show nothing
	wantSplit(t, "e\u0301/\u00e9", []string{"e\u0301", "\u00e9"}, api.OK)                               // alike, and not the same
	wantSplit(t, "\U0010ffff/\ud7ff/\ue000", []string{"\U0010ffff", "\ud7ff", "\ue000"}, api.OK)        // the last of some rows
}

func TestPartsOfEachLength(t *testing.T) {
	for n := 1; n <= 20; n++ {
		name := strings.Repeat("x", n)
		if n > 8 {
			for _, path := range []string{name, "/" + name, name + "/", "a/" + name, name + "/a", "/a/" + name + "/b"} {
				wantSplit(t, path, nil, api.ENAMETOOLONG)
			}
			continue
		}
		wantSplit(t, name, []string{name}, api.OK)
		wantSplit(t, "/"+name, []string{name}, api.OK)
		wantSplit(t, name+"//", []string{name}, api.OK)
		wantSplit(t, "a/"+name, []string{"a", name}, api.OK)
		wantSplit(t, name+"/a", []string{name, "a"}, api.OK)
		wantSplit(t, "/a/"+name+"/b", []string{"a", name, "b"}, api.OK)
		wantSplit(t, name+"/"+name+"/"+name, []string{name, name, name}, api.OK)
	}
}

// Which error it is: that of the first part that is no name; of that one, that it is too long.
func TestSplitErrors(t *testing.T) {
	for _, x := range []struct {
		path string
		want api.Errno
	}{
		{"\x00", api.EINVAL}, {"/\x00", api.EINVAL}, {"\x00/", api.EINVAL}, {"/\x00/", api.EINVAL},
		{"a\x00", api.EINVAL}, {"\x00a", api.EINVAL}, {"a\x00b", api.EINVAL}, {"a/\x00", api.EINVAL},
		{"\x00/a", api.EINVAL}, {"a/b/c\x00", api.EINVAL}, {"/a\x00/b/c", api.EINVAL}, {"//a//b\x00c//d", api.EINVAL},
		{"1234567\x00", api.EINVAL}, {"\x001234567", api.EINVAL}, {"\x00\x00\x00\x00\x00\x00\x00\x00", api.EINVAL},
		{"12345678\x00", api.ENAMETOOLONG}, {"\x0012345678", api.ENAMETOOLONG}, {"1234\x005678", api.ENAMETOOLONG},
		{"\x00\x00\x00\x00\x00\x00\x00\x00\x00", api.ENAMETOOLONG},
		{"a\x00/123456789", api.EINVAL}, {"123456789/a\x00", api.ENAMETOOLONG},
		{"/ok/a\x00/ok/123456789", api.EINVAL}, {"/ok/123456789/ok/a\x00", api.ENAMETOOLONG},
		{"a\x00/1234\x0056789", api.EINVAL}, {"1234\x0056789/a\x00", api.ENAMETOOLONG},
		{"\x00/\x00", api.EINVAL}, {"123456789/123456789", api.ENAMETOOLONG},
		{"é\x00", api.EINVAL}, {"\xff\x00", api.EINVAL}, {"\xe2\x82\x00", api.EINVAL}, {"\xe2\x00", api.EINVAL}, {"\xf0\x9f\x98\x00", api.EINVAL},
		{"\xff\xff\xff\xff\xff\xff\xff\xff\xff", api.ENAMETOOLONG}, {"12345678\xff", api.ENAMETOOLONG},
	} {
		wantSplit(t, x.path, nil, x.want)
	}
}

// Signs that are broken hide no slash, and stay as they are.
func TestSplitKeepsBrokenSigns(t *testing.T) {
	for _, broken := range []string{
		"\x80", "\xbf", "\xff", "\xfe", "\xc3", "\xe2", "\xe2\x82", "\xf0", "\xf0\x9f", "\xf0\x9f\x98", "\xc0\xaf", "\xe0\x80\xaf",
		"\xc0\x80", "\xed\xa0\x80", "\xf4\x90\x80\x80", "\x82\xe2", "\xf8\x88\x80\x80\x80", "\xef\xbf", "\xe2\xe2\x82\xac", "\xffa\xff",
	} {
		wantSplit(t, broken, []string{broken}, api.OK)
		wantSplit(t, "/"+broken+"/", []string{broken}, api.OK)
		wantSplit(t, broken+"/"+broken, []string{broken, broken}, api.OK)
		wantSplit(t, broken+"//a/"+broken+"b", []string{broken, "a", broken + "b"}, api.OK)
		wantSplit(t, "é/"+broken+"/é", []string{"é", broken, "é"}, api.OK)
		wantSplit(t, broken+"a\x00/b", nil, api.EINVAL)
	}
}

func TestSplitOfEachByte(t *testing.T) {
	for b := range 256 {
		sign := string([]byte{byte(b)})
		switch sign {
		case "/":
			wantSplit(t, "a/b", []string{"a", "b"}, api.OK)
		case "\x00":
			wantSplit(t, "a\x00b", nil, api.EINVAL)
		default:
			wantSplit(t, sign, []string{sign}, api.OK)
			wantSplit(t, "a"+sign+"b", []string{"a" + sign + "b"}, api.OK)
			wantSplit(t, sign+"/"+sign+sign, []string{sign, sign + sign}, api.OK)
		}
	}
}

// plainSplit reads a path byte by byte, as the chapter says it.
func plainSplit(path string) ([]string, api.Errno) {
	if len(path) == 0 {
		return nil, api.ENOENT
	}
	if len(path) > 32 {
		return nil, api.ENAMETOOLONG
	}
	var parts []string
	part := []byte{}
	for j := 0; j <= len(path); j++ {
		if j < len(path) && path[j] != '/' {
			part = append(part, path[j])
			continue
		}
		if len(part) > 8 {
			return nil, api.ENAMETOOLONG
		}
		if slices.Contains(part, 0) {
			return nil, api.EINVAL
		}
		if len(part) > 0 {
			parts = append(parts, string(part))
		}
		part = part[:0]
	}
	return parts, api.OK
}

// Every short row of these bytes, among which broken and whole signs are.
func TestEveryShortPath(t *testing.T) {
	bytes := []byte{'/', 0, 'a', 0xe2, 0x82, 0xac, 0xff}
	var try func(path []byte, left int)
	try = func(path []byte, left int) {
		want, e := plainSplit(string(path))
		wantSplit(t, string(path), want, e)
		for _, b := range bytes {
			if left > 0 {
				try(append(path, b), left-1)
			}
		}
	}
	try(nil, 6)
}

func TestPathsOfAllKinds(t *testing.T) {
	d := &dice{3}
	bytes := []byte("////////aabc\x00\xe2\x82\xac\xff\xf0\x9f\x98\x80é")
	for range 200000 {
		path := make([]byte, d.roll(36))
		for j := range path {
			path[j] = bytes[d.roll(len(bytes))]
			if path[j] == 0 && d.roll(10) > 0 {
				path[j] = 'x'
			}
		}
		want, e := plainSplit(string(path))
		wantSplit(t, string(path), want, e)
	}
}

// R4, R5: an answer is the caller's own, and the same again.
func TestSplitHandsOutItsOwn(t *testing.T) {
	path := "//a/bc/"
	one, _ := dir.Split(path)
	two, _ := dir.Split(path)
	one[0] = "z"
	_ = append(one[:1], "y")
	if !slices.Equal(two, []string{"a", "bc"}) || path != "//a/bc/" {
		t.Errorf("%q, %q", two, path)
	}
	wantSplit(t, path, []string{"a", "bc"}, api.OK)
}
