package desk

import (
	"bytes"
	"fmt"
	"math/rand"
	"slices"
	"strings"
	"testing"

	"mudlark/api"
	"mudlark/chance"
	"mudlark/derive"
	"mudlark/query"
)

// play is what some lines tell, the lines that are told parted by semicolons.
func play(lines ...string) string {
	return strings.TrimSuffix(strings.ReplaceAll(Run(strings.Join(lines, "\n")), "\n", "; "), "; ")
}

// P32.2: the chapter's example, and others.
func TestExamples(t *testing.T) {
	for i, l := range []struct {
		lines []string
		told  string
	}{
		{[]string{`put a.go x\sy`, `commit`, `ask 5 - y \e`}, `ok; ok; ok; hits 1; a.go 1 2 3 x\sy`},
		{[]string{`put a.go x\sy`, `ask 5 - y \e`, `files`, `stat`}, `ok; ok; hits 0; files 0; stat 1 0 0`},
		{[]string{`put b.md yy\ny`, `put a.go \n\s\\\x00y\xff`, `commit`, `ask 2 - y \e`, `ask 9 - y \e markdown`, `ask 9 - y go$`, `ask 9 i ^Y \e`, `ask 9 im ^Y \e`, `files`, `stat`}, `ok; ok; ok; ok; hits 2 cut; a.go 2 4 5 \s\\\x00y\xff; b.md 1 0 1 yy; ok; hits 3; b.md 1 0 1 yy; b.md 1 1 2 yy; b.md 2 3 4 y; ok; hits 1; a.go 2 4 5 \s\\\x00y\xff; ok; hits 1; b.md 1 0 1 yy; ok; hits 2; b.md 1 0 1 yy; b.md 2 3 4 y; files 2; a.go 6; b.md 4; stat 1 2 0`},
		{[]string{`put x\sy \e`, `commit`, `files`, `ask 1 - \e \e`, `ask 1 - \e \e \e go`}, `ok; ok; files 1; x\sy 0; ok; hits 1; x\sy 1 0 0 \e; ok; hits 1; x\sy 1 0 0 \e`},
		{[]string{`put a 1`, `arm 3`, `commit`, `stat`, `commit`, `ask 1 - 1 \e`, `crash 0 1 2 3`, `stat`}, `ok; ok; error 12; stat 2 0 0; error 12; error 12; ok; stat 1 0 0`},
		{[]string{`put a 1`, `arm 8`, `commit`, `stat`, `open`, `put b 2`, `drop`, `ask 1 - 1 \e`, `crash 1`, `files`}, `ok; ok; error 12; stat 2 0 0; error 12; error 1; error 1; error 1; ok; files 1; a 1`},
		{[]string{`put a 1`, `full 1`, `commit`, `commit`, `flip 0 9 1`, `stat`, `cut 1 3`, `open`, `cut 9 1`, `crash 0`}, `ok; ok; error 8; ok; ok; stat 1 1 1; ok; error 9; error 11; error 9`},
		{[]string{`put a 1`, `commit`, `put b 2`, `commit`, `take a`, `commit`, `compact`, `files`, `put c 3`, `drop`, `commit`, `open`, `files`}, `ok; ok; ok; ok; ok; ok; ok; files 1; b 1; ok; ok; ok; ok; files 1; b 1`},
		{[]string{`room 40`, `put a 1`, `commit`, `room -1`, `room 67108865`, `commit`, `room 67108864`, `commit`, `files`}, `ok; ok; error 8; error 2; error 2; error 8; ok; ok; files 0`},
		{[]string{`put a 1`, `commit`, `flip 1 3 4294967295`, `commit`, `stat`, `room 0`, `stat`}, `ok; ok; ok; error 9; stat 1 1 1; ok; stat 1 0 0`},
		{[]string{`ask 0 - a \e`, `ask 10001 - a \e`, `ask -5 - a \e`, `ask 1 - ( \e`, `ask 1 - a a{2`, `ask 1 - a )`, `put / \e`, `take \e`}, `error 2; error 2; error 2; error 4; ok; hits 0; error 4; error 2; error 2`},
		{[]string{`plan - abc?d`, `plan i k`, `plan - ab(`, `plan - a{101}`, `plan - \e`, `plan s .`, `plan - .`}, `plan 8 (616264|(616263&626364)); plan 4 +; wrong 4 2; wrong 6 1; plan 3 +; plan 4 +; plan 4 +`},
	} {
		if got := play(l.lines...); got != l.told {
			t.Errorf("%d: %s, not %s", i, got, l.told)
		}
	}
}

// P32.2: the first world's room is 2^20.
func TestRoom(t *testing.T) {
	r := rand.New(rand.NewSource(324))
	b := make([]byte, 70000)
	for i := range b {
		b[i] = "abcdefghijklmnopqrstuvwxyzABCDEFGHIJKLMNOPQRSTUVWXYZ0123456789"[r.Intn(62)]
	}
	lines := []string{"put a " + string(b[:40000]), "commit", "put b " + string(b), "commit"}
	if got := play(lines...); got != "ok; ok; ok; error 8" {
		t.Error(got)
	}
	if got := play(append([]string{"room 1200000"}, lines...)...); got != "ok; ok; ok; ok; ok" {
		t.Error(got)
	}
}

// P32.2: lines that say nothing, and where words are parted.
func TestLines(t *testing.T) {
	for i, l := range []struct{ script, told string }{
		{"", ""}, {"\n\n", ""}, {"   ", ""}, {"#", ""}, {" # commit", ""}, {"#commit\n  #", ""}, {"stat", "stat 1 0 0\n"}, {"  stat   \n", "stat 1 0 0\n"}, {"\nstat\n\n", "stat 1 0 0\n"},
		{"x", "wrong 40 1\n"}, {"# one\n\nx\nstat x\n", "wrong 40 3\nwrong 40 4\n"}, {"stat\r", "wrong 40 1\n"}, {"\tstat", "wrong 40 1\n"}, {"stat #", "wrong 40 1\n"}, {"Stat", "wrong 40 1\n"}, {`st\x61t`, "wrong 40 1\n"}, {"\u00a0stat", "wrong 40 1\n"}, {"\xff", "wrong 40 1\n"},
		{"  put   a    b  \ncommit\nfiles", "ok\nok\nfiles 1\na 1\n"}, {"put a \tb\u00e9\xff\ncommit\nask 1 - b \\e", "ok\nok\nok\nhits 1\na 1 1 2 \\x09b\\xc3\\xa9\\xff\n"},
	} {
		if got := Run(l.script); got != l.told {
			t.Errorf("%d: %q, not %q", i, got, l.told)
		}
	}
	long := strings.Repeat("#", 1<<18)
	if Run(long) != "" || Run(long+"\n") != "wrong 3 0\n" || Run(long+long) != "wrong 3 0\n" {
		t.Error("long")
	}
}

// P32.2: lines that are none: they tell it, and do nothing.
func TestWrong(t *testing.T) {
	numbers := []string{"", "01", "-0", "+1", "1099511627777", "-1099511627777", "99999999999999999999", "a", "1a", "--1", "-", "0x1", "1_0", `\x31`, `\e`, "1.0"}
	var wrong []string
	for _, n := range numbers {
		wrong = append(wrong, "room "+n, "arm "+n, "full "+n, "crash "+n, "flip "+n+" 0 1", "flip 0 "+n+" 1", "flip 0 0 "+n, "cut "+n+" 0", "cut 0 "+n, "ask "+n+` - a \e`)
		if n != "" {
			wrong = append(wrong, "crash 0 "+n, "crash 0 1 "+n+" 1")
		}
	}
	for _, f := range []string{"x", "ii", "imsi", "-i", "i-", "--", "I", "0", `\e`, "i,m"} {
		wrong = append(wrong, "ask 1 "+f+` a \e`, "plan "+f+" a")
	}
	for _, w := range []string{`\`, `a\`, `\x`, `\x1`, `\xAB`, `\xg0`, `\x0g`, `\a`, `\S`, `\0`, `a\ b`} {
		wrong = append(wrong, "put "+w+" a", "put a "+w, "take "+w, "ask 1 - "+w+` \e`, "ask 1 - a "+w, `ask 1 - a \e `+w, `ask 1 - a \e go `+w, "plan - "+w)
	}
	wrong = append(wrong, "put", "put a", "put a b c", "take", "take a b", "commit 1", "compact 1", "drop 1", "open 1", "files 1", "stat 1", "room 1 1", "room", "arm 1 1", "full 1 1", "full", "crash", "flip 0 0", "flip 0 0 1 1", "flip 0 0 -1", "flip 0 0 4294967296", "cut 0", "cut 0 0 0", "ask 1 - a", "ask 1 -", "ask", "plan", "plan -", "plan - a b", "plan a", "wake", "search", "put\ta b", "sync m")
	head := []string{`put a x`, `commit`, `put b y`}
	tail := []string{`stat`, `commit`, `files`, `ask 9 - . \e`}
	want := play(append(slices.Clone(head), tail...)...)
	for _, line := range wrong {
		got := play(slices.Concat(head, []string{line}, tail)...)
		if told := "; wrong 40 4; "; strings.Count(got, told) != 1 || strings.Replace(got, told, "; ", 1) != want {
			t.Errorf("%q: %s", line, got)
		}
	}
	for _, line := range []string{"arm 1099511627776", "full -1099511627776", "arm 0", "full -1", "plan ims a", "plan smi a", "plan m a"} {
		if got := play(line); strings.HasPrefix(got, "wrong") || got == "" {
			t.Errorf("%s: %s", line, got)
		}
	}
	for line, want := range map[string]string{"flip 0 0 4294967295": "error 10", "flip 0 0 0": "error 10", "cut -1099511627776 1099511627776": "error 10", "crash -1 -1099511627776 1099511627776": "ok", "ask 1099511627776 - a \\e": "error 2"} {
		if got := play(line); got != want {
			t.Errorf("%s: %s", line, got)
		}
	}
}

// P32.1: words of bytes, bytes of words.
func TestWords(t *testing.T) {
	for b, want := range map[string]string{"": `\e`, "a": "a", " ": `\s`, "\\": `\\`, "\n": `\n`, "\x00": `\x00`, "\r\t": `\x0d\x09`, "\x7f\x80\xff": `\x7f\x80\xff`, "a b\\n": `a\sb\\n`, "!~": "!~", "\x1f": `\x1f`, "é": `\xc3\xa9`, "#": "#"} {
		if got := Word([]byte(b)); got != want {
			t.Errorf("%q: %s", b, got)
		}
	}
	for word, want := range map[string]string{`\e`: "", `\e\e`: "", `a\eb`: "ab", `\x41\x5c`: "A\\", `\\x41`: `\x41`, `\\\s`: "\\ ", "\t\xff": "\t\xff", `\x0a\x20`: "\n ", "#": "#", `\xff0`: "\xff0"} {
		if got, ok := Bytes(word); string(got) != want || !ok {
			t.Errorf("%s: %q, %v", word, got, ok)
		}
	}
	for _, word := range []string{"", " ", "\n", "a b", "a\nb", "a ", `\`, `\\\`, `\x`, `\x1`, `\x1G`, `\xA0`, `\x g0`, `\t`, `a\e\`, `\E`} {
		if got, ok := Bytes(word); got != nil || ok {
			t.Errorf("%q: %q", word, got)
		}
	}
	r := rand.New(rand.NewSource(321))
	for range 20000 {
		b := make([]byte, r.Intn(9))
		for i := range b {
			b[i] = []byte{byte(r.Intn(256)), '\\', 'x', 'e', ' ', '\n', '0'}[r.Intn(7)]
		}
		word := Word(b)
		if got, ok := Bytes(word); !ok || !bytes.Equal(got, b) || strings.ContainsAny(word, " \n") || word == "" {
			t.Fatalf("%q: %s, %q", b, word, got)
		}
		if got, ok := Bytes(string(b)); ok && len(b) > 0 {
			if again, ok := Bytes(Word(got)); !ok || !bytes.Equal(again, got) {
				t.Fatalf("%q: %q", b, got)
			}
		}
	}
}

// P32.2: what is told of an error, and of what does not fit.
func TestTold(t *testing.T) {
	var d desk
	d.told(api.OK, true)
	d.told(api.OK, false)
	d.told(api.ErrDown, true)
	d.told(api.ErrCommand, false)
	if d.String() != "ok\nok odd\nerror 12\nerror 40 odd\n" {
		t.Error(d.String())
	}
}

// asks says whether a line of chance is one that asks.
func asks(line string) bool {
	first := strings.Fields(line + " #")[0]
	return slices.Contains([]string{"ask", "files", "stat", "plan"}, first)
}

// someLine is a line of chance.
func someLine(r *rand.Rand) string {
	draw := chance.Draw(r.Intn)
	path := []string{"a.go", "b", "c/d.py", `x\sy`, "e", `\e`}[r.Intn(36)%6]
	n := func() int { return r.Intn(12) - 2 }
	flags := []string{"-", "i", "ms", "sim"}[r.Intn(4)]
	word := func(s string) string { return Word([]byte(s)) }
	switch r.Intn(22) {
	case 0, 1, 2, 3:
		return fmt.Sprintf("put %s %s", path, word(string(draw.Text(20))))
	case 4:
		return "take " + path
	case 5, 6, 7:
		return "commit"
	case 8:
		return []string{"compact", "drop", "open"}[r.Intn(3)]
	case 9:
		return fmt.Sprintf("arm %d", n())
	case 10:
		return fmt.Sprintf("full %d", n())
	case 11, 12:
		return strings.TrimRight(fmt.Sprint("crash ", n(), " ", strings.Trim(fmt.Sprint(r.Perm(r.Intn(5))), "[]")), " ")
	case 13:
		return []string{fmt.Sprintf("flip %d %d %d", n(), r.Intn(500), r.Uint32()), fmt.Sprintf("cut %d %d", n(), r.Intn(90))}[r.Intn(2)]
	case 14, 15, 16:
		return fmt.Sprintf("ask %d %s %s %s %s", n(), flags, word(draw.Regex(1)), []string{`\e`, "[ab]", "("}[r.Intn(7)/3], []string{"", "go", `\e python`}[r.Intn(3)])
	case 17:
		return "files"
	case 18:
		return "stat"
	case 19:
		return fmt.Sprintf("plan %s %s", flags, word(draw.Regex(2)))
	case 20:
		return []string{"", "# x", "room 1", "x y", "put a", "room 1048576"}[r.Intn(24)%6]
	}
	return fmt.Sprintf("room %d", 300+r.Intn(3000))
}

// P32.2, P32.3, R4: scripts of chance: no line tells odd; told alike each time; lines that begin alike tell alike; lines that ask change nothing of what others tell.
func TestChance(t *testing.T) {
	r := rand.New(rand.NewSource(322))
	errors, hits, two := 0, 0, 0
	for range 150 {
		var all []string
		for range 50 {
			all = append(all, someLine(r))
		}
		told := Run(strings.Join(all, "\n"))
		if strings.Contains(told, "odd\n") || told != Run(strings.Join(all, "\n")+"\n") {
			t.Fatalf("%q: %s", all, told)
		}
		errors += strings.Count(told, "error")
		hits += strings.Count(told, "hits")
		two += strings.Count(told, "stat 2")
		most := r.Intn(51)
		if got := Run(strings.Join(all[:most], "\n")); !strings.HasPrefix(told, got) {
			t.Fatalf("%q: %q, not the begin of %q", all, got, told)
		}
		checkAsking(t, all)
	}
	if errors < 1000 || hits < 100 || two < 1 {
		t.Error(errors, hits, two)
	}
}

// checkAsking holds what lines that change something tell against what they tell without those that ask (these being remarks then, so that lines keep their numbers).
func checkAsking(t *testing.T, all []string) {
	t.Helper()
	var some []string
	var want strings.Builder
	for i, line := range all {
		if asks(line) {
			line = "#"
		}
		some = append(some, line)
		if line != "#" {
			want.WriteString(strings.TrimPrefix(Run(strings.Join(all[:i+1], "\n")), Run(strings.Join(all[:i], "\n"))))
		}
	}
	if got := Run(strings.Join(some, "\n")); got != want.String() {
		t.Fatalf("%q: %q, not %q", all, got, want.String())
	}
}

// P32.2: plans, as derive has them.
func TestPlans(t *testing.T) {
	r := rand.New(rand.NewSource(323))
	draw := chance.Draw(r.Intn)
	for range 2000 {
		regex := draw.Regex(3) + []string{"", "", ")", "a{2", "[a"}[r.Intn(5)]
		p, at, e := derive.Regex(regex, api.Flags{Fold: true, All: true})
		want := fmt.Sprintf("plan %d %s", len(p.Prog), query.Text(p.Query))
		if e != api.OK {
			want = fmt.Sprintf("wrong %d %d", e, at)
		}
		if got := play("plan si " + Word([]byte(regex))); got != want {
			t.Fatalf("%s: %s, not %s", regex, got, want)
		}
	}
}

// P32.2: lines that are gone through are left where a loop ends.
func TestLinesAreLeft(t *testing.T) {
	for number, w := range lines("a b\nc") {
		if number != 1 || !slices.Equal(w, []string{"a", "b"}) {
			t.Error(number, w)
		}
		break
	}
}
