package vfs

import (
	"bytes"
	"math"
	"math/rand"
	"slices"
	"strconv"
	"strings"
	"testing"

	"mudlark/api"
)

// disk is a new disk.
func disk(t *testing.T, room int) *Disk {
	t.Helper()
	d, e := New(room)
	if d == nil || e != api.OK {
		t.Fatalf("New(%d): %d", room, e)
	}
	return d
}

// holds says of a disk that it has just these files: names and texts by turns.
func holds(t *testing.T, d *Disk, want ...string) {
	t.Helper()
	var got []string
	for _, name := range d.List() {
		b, e := d.Read(name, 0, math.MaxInt)
		if n, f := d.Size(name); e != api.OK || f != api.OK || n != len(b) {
			t.Errorf("%s: Read tells %d bytes and %d, Size %d and %d", name, len(b), e, n, f)
		}
		got = append(got, name, string(b))
	}
	if !slices.Equal(got, want) {
		t.Errorf("it has %q, not %q", got, want)
	}
}

// tells holds an error against the one that is to be told.
func tells(t *testing.T, what string, got, want api.Errno) {
	t.Helper()
	if got != want {
		t.Errorf("%s: %d, not %d", what, got, want)
	}
}

// done makes sure that calls are OK.
func done(t *testing.T, l ...api.Errno) {
	t.Helper()
	for i, e := range l {
		if e != api.OK {
			t.Errorf("the call %d: %d", i, e)
		}
	}
}

// P4.1: room from 0 to 2^26.
func TestNew(t *testing.T) {
	for _, room := range []int{-1, math.MinInt, 1<<26 + 1, math.MaxInt} {
		if d, e := New(room); d != nil || e != api.ErrArg {
			t.Errorf("New(%d): %d", room, e)
		}
	}
	for _, room := range []int{0, 1, 1 << 26} {
		d := disk(t, room)
		holds(t, d)
		if s := d.Stat(); s != (Stat{}) {
			t.Errorf("New(%d): %v", room, s)
		}
	}
}

// P4.1: names, byte by byte, and by their lengths.
func TestNames(t *testing.T) {
	for c := range 256 {
		b := byte(c)
		want := api.ErrArg
		if 'a' <= b && b <= 'z' || '0' <= b && b <= '9' || b == '.' {
			want = api.OK
		}
		for _, name := range []string{string([]byte{b}), string([]byte{'a', b, '9'}), string([]byte{'.', b})} {
			d := disk(t, 10)
			tells(t, "Create "+strconv.Quote(name), d.Create(name), want)
			tells(t, "Create a name", d.Create("a.name.0"), api.OK)
			tells(t, "Rename to "+strconv.Quote(name), d.Rename("a.name.0", name), want)
			tells(t, "Rename from "+strconv.Quote(name), d.Rename(name, "z"), want)
			if len(d.List()) != 1 {
				t.Errorf("%q: %q", name, d.List())
			}
		}
	}
	for n := range 40 {
		want := api.ErrArg
		if n >= 1 && n <= 30 {
			want = api.OK
		}
		tells(t, "Create of "+strconv.Itoa(n)+" bytes", disk(t, 10).Create(strings.Repeat("k", n)), want)
	}
}

// P4.1: Create.
func TestCreate(t *testing.T) {
	d := disk(t, 10)
	tells(t, "Create", d.Create("a"), api.OK)
	tells(t, "Append", d.Append("a", []byte("x")), api.OK)
	tells(t, "Create again", d.Create("a"), api.ErrKnown)
	holds(t, d, "a", "x")
	tells(t, "Create another one", d.Create(".."), api.OK)
	holds(t, d, "..", "", "a", "x")
}

// P4.1: Append has room for all files' bytes together.
func TestAppend(t *testing.T) {
	d := disk(t, 10)
	tells(t, "no file", d.Append("a", nil), api.ErrNone)
	tells(t, "no name", d.Append("A", make([]byte, 11)), api.ErrNone)
	done(t, d.Create("a"), d.Create("b"))
	done(t, d.Append("a", []byte("abcd")), d.Append("b", []byte("xyz")), d.Append("a", []byte("ef")), d.Append("b", nil))
	holds(t, d, "a", "abcdef", "b", "xyz")
	tells(t, "too much", d.Append("a", []byte("12")), api.ErrNoSpace)
	tells(t, "just enough", d.Append("a", []byte("1")), api.OK)
	tells(t, "nothing more", d.Append("b", nil), api.OK)
	tells(t, "one more", d.Append("b", []byte("1")), api.ErrNoSpace)
	holds(t, d, "a", "abcdef1", "b", "xyz")
	done(t, d.Remove("b"))
	tells(t, "where one was", d.Append("a", []byte("123")), api.OK)
	tells(t, "too much again", d.Append("a", []byte("4")), api.ErrNoSpace)
	done(t, d.Create("c"), d.Rename("c", "a"), d.Append("a", []byte("0123456789")))
	holds(t, d, "a", "0123456789")
	tells(t, "too much for good", d.Append("a", []byte("4")), api.ErrNoSpace)
}

// P4.1: a disk without room, and one with the most.
func TestRoom(t *testing.T) {
	d := disk(t, 0)
	done(t, d.Create("a"), d.Append("a", nil))
	tells(t, "a byte", d.Append("a", []byte{0}), api.ErrNoSpace)
	most := disk(t, 1<<26)
	done(t, most.Create("a"), most.Create("b"))
	half := make([]byte, 1<<25)
	done(t, most.Append("a", half), most.Append("b", half))
	tells(t, "a byte more", most.Append("b", []byte{0}), api.ErrNoSpace)
	tells(t, "far more", most.Append("a", half), api.ErrNoSpace)
	if s := most.Stat(); s.Bytes != 1<<26 {
		t.Error(s)
	}
}

// P4.1: what changes come back may be more than there is room for; then nothing can be appended.
func TestMoreThanRoom(t *testing.T) {
	d := disk(t, 4)
	done(t, d.Create("a"), d.Create("b"), d.Append("a", []byte("abcd")), d.Sync("a"))
	done(t, d.Remove("a"), d.Append("b", []byte("xyz")), d.Crash(), d.Wake(0, 3))
	holds(t, d, "a", "abcd", "b", "xyz")
	if s := d.Stat(); s.Bytes != 7 {
		t.Error(s)
	}
	tells(t, "nothing", d.Append("b", nil), api.ErrNoSpace)
	done(t, d.Remove("a"))
	tells(t, "a byte", d.Append("b", []byte("!")), api.OK)
}

// P4.1, P4.6: Sync makes a file's bytes safe, no other one's, and all changes.
func TestSync(t *testing.T) {
	d := disk(t, 100)
	tells(t, "no file", d.Sync("a"), api.ErrNone)
	done(t, d.Create("a"), d.Create("b"), d.Append("a", []byte("aa")), d.Append("b", []byte("bb")), d.Sync("a"))
	if s := d.Stat(); s.Waiting != 0 {
		t.Error(s)
	}
	done(t, d.Append("a", []byte("more")), d.Crash(), d.Wake(0))
	holds(t, d, "a", "aa", "b", "")
	done(t, d.Create("c"))
	tells(t, "no file", d.Sync("d"), api.ErrNone)
	if s := d.Stat(); s.Waiting != 1 {
		t.Error("a Sync of no file made changes safe")
	}
	done(t, d.Crash(), d.Wake(0))
	holds(t, d, "a", "aa", "b", "")
}

// P4.1: Rename, and what it tells first.
func TestRename(t *testing.T) {
	d := disk(t, 100)
	tells(t, "no names", d.Rename("A", "B"), api.ErrArg)
	tells(t, "no name to", d.Rename("a", ""), api.ErrArg)
	tells(t, "no name from", d.Rename("", "a"), api.ErrArg)
	tells(t, "no file", d.Rename("a", "b"), api.ErrNone)
	tells(t, "no file, to itself", d.Rename("a", "a"), api.ErrNone)
	done(t, d.Create("a"), d.Append("a", []byte("xy")), d.Sync("a"))
	tells(t, "a name to no name", d.Rename("a", "B"), api.ErrArg)
	tells(t, "to itself", d.Rename("a", "a"), api.OK)
	if s := d.Stat(); s.Waiting != 0 {
		t.Error("a Rename to itself waits")
	}
	tells(t, "to another name", d.Rename("a", "b"), api.OK)
	holds(t, d, "b", "xy")
	done(t, d.Create("a"), d.Append("a", []byte("!")))
	tells(t, "over another one", d.Rename("a", "b"), api.OK)
	holds(t, d, "b", "!")
	if s := d.Stat(); s != (Stat{Files: 1, Bytes: 1, Waiting: 3, Turns: 14}) {
		t.Error(s)
	}
}

// P4.1: Remove.
func TestRemove(t *testing.T) {
	d := disk(t, 100)
	tells(t, "no file", d.Remove("a"), api.ErrNone)
	done(t, d.Create("a"), d.Append("a", []byte("xy")), d.Remove("a"))
	holds(t, d)
	tells(t, "again", d.Remove("a"), api.ErrNone)
	done(t, d.Create("a"))
	holds(t, d, "a", "")
}

// P4.2: Read and Size.
func TestRead(t *testing.T) {
	d := disk(t, 100)
	done(t, d.Create("a"), d.Append("a", []byte("01234")))
	for _, c := range []struct {
		at, n int
		want  string
		e     api.Errno
	}{
		{0, 5, "01234", 0},
		{0, 0, "", 0},
		{0, 3, "012", 0},
		{2, 2, "23", 0},
		{2, 3, "234", 0},
		{2, 4, "234", 0},
		{4, 1, "4", 0},
		{5, 1, "", 0},
		{6, 1, "", 0},
		{math.MaxInt, math.MaxInt, "", 0},
		{1, math.MaxInt, "1234", 0},
		{0, -1, "", api.ErrArg},
		{-1, 0, "", api.ErrArg},
		{-1, 9, "", api.ErrArg},
		{math.MinInt, math.MinInt, "", api.ErrArg},
	} {
		if got, e := d.Read("a", c.at, c.n); string(got) != c.want || e != c.e {
			t.Errorf("Read(%d, %d): %q, %d", c.at, c.n, got, e)
		}
	}
	if b, e := d.Read("b", -1, -1); b != nil || e != api.ErrNone {
		t.Errorf("Read of no file: %q, %d", b, e)
	}
	if n, e := d.Size("a"); n != 5 || e != api.OK {
		t.Errorf("Size: %d, %d", n, e)
	}
	if n, e := d.Size("b"); n != 0 || e != api.ErrNone {
		t.Errorf("Size of no file: %d, %d", n, e)
	}
}

// P4.2: List is rising, byte by byte; Stat counts.
func TestListAndStat(t *testing.T) {
	d := disk(t, 100)
	for _, name := range []string{"b", "a", "a1", "a.", "0", ".", "b.a", "10", "9"} {
		done(t, d.Create(name))
	}
	if got, want := d.List(), []string{".", "0", "10", "9", "a", "a.", "a1", "b", "b.a"}; !slices.Equal(got, want) {
		t.Errorf("%q", got)
	}
	done(t, d.Append("a", []byte("xyz")), d.Append("b", []byte("z")))
	if s := d.Stat(); s != (Stat{Files: 9, Bytes: 4, Waiting: 9, Turns: 11}) {
		t.Error(s)
	}
	// Calls that tell an error were made, too; others change nothing.
	d.Create("A")
	d.Create("a")
	d.Append("none", nil)
	d.Append("a", make([]byte, 100))
	d.Sync("none")
	d.Rename("none", "a")
	d.Remove("none")
	d.Read("a", 0, 1)
	d.Size("a")
	d.Flip("a", 0, 1)
	d.Cut("a", 2)
	d.Arm(0)
	d.Full(0)
	d.Wake(0)
	if s := d.Stat(); s != (Stat{Files: 9, Bytes: 4, Waiting: 9, Turns: 18}) {
		t.Error(s)
	}
	done(t, d.Crash())
	d.Create("c")
	d.Sync("a")
	d.Crash()
	if s := d.Stat(); s != (Stat{Files: 9, Bytes: 4, Waiting: 9, Turns: 18, Crashes: 1, Down: true}) {
		t.Error(s)
	}
	done(t, d.Wake(3))
	if s := d.Stat(); s != (Stat{Files: 3, Bytes: 0, Turns: 18, Crashes: 1}) {
		t.Error(s)
	}
}

// changing are the changing calls, of a disk that has the files a and b.
func changing() []deed {
	return []deed{
		func(d both) api.Errno { return d.Create("c") },
		func(d both) api.Errno { return d.Append("a", []byte("1")) },
		func(d both) api.Errno { return d.Sync("a") },
		func(d both) api.Errno { return d.Rename("a", "b") },
		func(d both) api.Errno { return d.Remove("a") },
		func(d both) api.Errno { return d.Create("no name") },
		func(d both) api.Errno { return d.Append("none", nil) },
	}
}

// P4.3: armed by n, the n-th changing call finds the disk down, whatever it is, and does nothing.
func TestArm(t *testing.T) {
	for n := 1; n < 5; n++ {
		for i, call := range changing() {
			d := disk(t, 100)
			done(t, d.Create("a"), d.Create("b"), d.Append("a", []byte("x")), d.Sync("a"), d.Sync("b"))
			d.Arm(n)
			for range n - 1 {
				tells(t, "ahead of it", d.Sync("b"), api.OK)
				d.List()
				d.Size("a")
				d.Flip("none", 0, 0)
			}
			tells(t, "the call "+strconv.Itoa(i), call(d), api.ErrDown)
			if s := d.Stat(); s != (Stat{Files: 2, Bytes: 1, Turns: 4 + n, Crashes: 1, Down: true}) {
				t.Errorf("the call %d: %v", i, s)
			}
			tells(t, "behind it", d.Sync("b"), api.ErrDown)
			done(t, d.Wake(0))
			holds(t, d, "a", "x", "b", "")
			for range 5 {
				tells(t, "woken", d.Sync("b"), api.OK)
			}
		}
	}
}

// P4.3: to arm is in place of what was.
func TestArmAgain(t *testing.T) {
	for _, n := range []int{0, -1, math.MinInt} {
		d := disk(t, 9)
		d.Arm(1)
		d.Arm(n)
		tells(t, "no more armed", d.Create("a"), api.OK)
	}
	d := disk(t, 9)
	d.Arm(1)
	d.Arm(3)
	done(t, d.Create("a"), d.Create("b"))
	d.Arm(math.MaxInt)
	done(t, d.Create("c"))
	d.Arm(2)
	done(t, d.Create("d"))
	tells(t, "the second one", d.Create("e"), api.ErrDown)
	d.Arm(1)
	d.Full(1)
	done(t, d.Wake(4), d.Create("e"), d.Append("a", []byte("x")))
	d.Arm(1)
	done(t, d.Crash(), d.Wake(9), d.Create("f"))
}

// P4.3: full by n, the n-th Append that would be done otherwise tells ErrNoSpace, once.
func TestFull(t *testing.T) {
	for n := 1; n < 5; n++ {
		d := disk(t, 20)
		done(t, d.Create("a"), d.Create("b"))
		d.Full(n)
		for range n - 1 {
			tells(t, "no file", d.Append("none", nil), api.ErrNone)
			tells(t, "no room", d.Append("a", make([]byte, 21)), api.ErrNoSpace)
			tells(t, "ahead of it", d.Append("b", nil), api.OK)
			done(t, d.Sync("a"))
		}
		tells(t, "no room", d.Append("a", make([]byte, 21)), api.ErrNoSpace)
		tells(t, "full", d.Append("a", []byte("x")), api.ErrNoSpace)
		holds(t, d, "a", "", "b", "")
		for range 5 {
			tells(t, "behind it", d.Append("a", []byte("x")), api.OK)
		}
		holds(t, d, "a", "xxxxx", "b", "")
	}
}

// P4.3: full is in place of what was, and apart from armed.
func TestFullAgain(t *testing.T) {
	for _, n := range []int{0, -1, math.MinInt} {
		d := disk(t, 9)
		done(t, d.Create("a"))
		d.Full(1)
		d.Full(n)
		tells(t, "no more full", d.Append("a", nil), api.OK)
		d.Full(1)
		d.Arm(n)
		tells(t, "full, not armed", d.Append("a", nil), api.ErrNoSpace)
		d.Arm(1)
		d.Full(n)
		tells(t, "armed, not full", d.Append("a", nil), api.ErrDown)
	}
	d := disk(t, 9)
	done(t, d.Create("a"))
	d.Full(1)
	done(t, d.Crash(), d.Wake(1), d.Append("a", nil))
	d.Full(1)
	d.Arm(1)
	tells(t, "both", d.Append("a", nil), api.ErrDown)
	done(t, d.Wake(1), d.Append("a", nil))
}

// P4.3: while it is down all calls but Wake and Stat tell so, whatever they are given, and change nothing.
func TestDown(t *testing.T) {
	d := disk(t, 9)
	done(t, d.Create("a"), d.Append("a", []byte("xy")), d.Sync("a"), d.Crash())
	for i, call := range append(changing(),
		func(d both) api.Errno { return d.Crash() },
		func(d both) api.Errno { return d.Flip("a", 0, 1) },
		func(d both) api.Errno { return d.Flip("none", 0, 1) },
		func(d both) api.Errno { return d.Cut("a", 1) },
		func(d both) api.Errno { return d.Cut("a", -1) },
	) {
		tells(t, "the call "+strconv.Itoa(i), call(d), api.ErrDown)
	}
	if b, e := d.Read("a", 0, 2); b != nil || e != api.ErrDown {
		t.Errorf("Read: %q, %d", b, e)
	}
	if b, e := d.Read("none", -1, 2); b != nil || e != api.ErrDown {
		t.Errorf("Read of no file: %q, %d", b, e)
	}
	if n, e := d.Size("a"); n != 0 || e != api.ErrDown {
		t.Errorf("Size: %d, %d", n, e)
	}
	if l := d.List(); len(l) != 0 {
		t.Errorf("List: %q", l)
	}
	d.Arm(1)
	d.Full(1)
	if s := d.Stat(); s != (Stat{Files: 1, Bytes: 2, Turns: 3, Crashes: 1, Down: true}) {
		t.Error(s)
	}
	tells(t, "Wake", d.Wake(0), api.OK)
	tells(t, "Wake again", d.Wake(0), api.ErrKnown)
	done(t, d.Append("a", nil))
	holds(t, d, "a", "xy")
}

// P4.3: of the changes that wait so many first ones stay as dirs says, modulo.
func TestDirs(t *testing.T) {
	after := [][]string{
		{"a", "A", "b", "B"},
		{"a", "A", "b", "B", "c", ""},
		{"b", "A", "c", ""},
		{"c", ""},
		{"d", ""},
		{"b", "", "d", ""},
		{"d", ""},
	}
	many := len(after)
	for _, dirs := range []int{0, 1, 2, 3, 4, 5, 6, 7, 8, 100, -1, -6, -7, -8, math.MaxInt, math.MinInt} {
		d := disk(t, 100)
		done(t, d.Create("a"), d.Append("a", []byte("A")), d.Create("b"), d.Append("b", []byte("B")), d.Sync("a"), d.Sync("b"))
		done(t, d.Create("c"), d.Rename("a", "b"), d.Remove("b"), d.Rename("c", "d"), d.Create("b"), d.Rename("b", "d"))
		if s := d.Stat(); s.Waiting != many-1 {
			t.Fatal(s)
		}
		done(t, d.Crash(), d.Wake(dirs))
		holds(t, d, after[((dirs%many)+many)%many]...)
		if s := d.Stat(); s.Waiting != 0 || s.Down {
			t.Error(s)
		}
	}
}

// P4.3, and the chapter's example: so many of the bytes that are not safe stay as the first tear says, 0 where the second one says so.
func TestTears(t *testing.T) {
	for _, c := range []struct {
		tears []int
		want  string
	}{
		{nil, "xy"},
		{[]int{0, 0}, "xy"},
		{[]int{1}, "xyz"},
		{[]int{1, 0}, "xyz"},
		{[]int{1, 1}, "xy\x00"},
		{[]int{1, 2}, "xyz"},
		{[]int{2, 3}, "xy\x00\x00"},
		{[]int{2, 2}, "xyz\x00"},
		{[]int{3, 2, 7, 7}, "xyz\x00w"},
		{[]int{3, -1}, "xy\x00\x00\x00"},
		{[]int{3, math.MinInt}, "xyzvw"},
		{[]int{4, 0}, "xy"},
		{[]int{5, 0}, "xyz"},
		{[]int{-1, 0}, "xyzvw"},
		{[]int{-4, 0}, "xy"},
		{[]int{math.MaxInt, 0}, "xyzvw"},
		{[]int{math.MinInt, 0}, "xy"},
	} {
		d := disk(t, 100)
		done(t, d.Create("a"), d.Append("a", []byte("xy")), d.Sync("a"), d.Append("a", []byte("z")), d.Append("a", []byte("vw")))
		done(t, d.Crash(), d.Wake(0, c.tears...))
		holds(t, d, "a", c.want)
		done(t, d.Crash(), d.Wake(0))
		holds(t, d, "a", c.want)
	}
}

// P4.3: the bit i % 63 of a tear tells of the byte i.
func TestLongTears(t *testing.T) {
	d := disk(t, 1000)
	text := bytes.Repeat([]byte("x"), 200)
	done(t, d.Create("a"), d.Append("a", text), d.Crash(), d.Wake(1, 190, 1|1<<5|1<<62))
	for i := range text {
		if i%63 == 0 || i%63 == 5 || i%63 == 62 {
			text[i] = 0
		}
	}
	holds(t, d, "a", string(text[:190]))
}

// P4.3: tears are taken by the names that are there behind the crash, two by each file that has bytes that are not safe.
func TestTearsByName(t *testing.T) {
	d := disk(t, 100)
	done(t, d.Create("c"), d.Create("b"), d.Create("a"), d.Create("d"), d.Append("d", []byte("d")), d.Sync("d"))
	done(t, d.Append("b", []byte("bb")), d.Append("c", []byte("cc")), d.Append("a", []byte("aa")))
	done(t, d.Rename("a", "z"), d.Rename("b", "y"))
	tears := []int{1, 0, 2, 1, 1, 1}
	done(t, d.Crash(), d.Wake(1, tears...))
	holds(t, d, "b", "b", "c", "\x00c", "d", "d", "z", "\x00")
	done(t, d.Append("b", []byte("2")), d.Append("c", []byte("3")), d.Append("z", []byte("4")), d.Crash(), d.Wake(0, 1, 0, 1))
	holds(t, d, "b", "b2", "c", "\x00c3", "d", "d", "z", "\x00")
	if !slices.Equal(tears, []int{1, 0, 2, 1, 1, 1}) {
		t.Error("the tears were changed")
	}
}

// P4.4: Flip, and what it tells first.
func TestFlip(t *testing.T) {
	d := disk(t, 100)
	tells(t, "no file", d.Flip("a", -1, 0), api.ErrNone)
	done(t, d.Create("a"))
	tells(t, "no bytes", d.Flip("a", 0, 1), api.ErrArg)
	done(t, d.Append("a", []byte("\x00\x00")))
	tells(t, "ahead", d.Flip("a", -1, 2), api.ErrArg)
	tells(t, "no bits", d.Flip("a", 0, 0), api.ErrArg)
	tells(t, "behind", d.Flip("a", 16, 1), api.ErrArg)
	tells(t, "behind, by its mask", d.Flip("a", 15, 2), api.ErrArg)
	tells(t, "far behind", d.Flip("a", math.MaxInt, math.MaxUint32), api.ErrArg)
	holds(t, d, "a", "\x00\x00")
	tells(t, "two bits", d.Flip("a", 7, 0xFFFF0003), api.OK)
	holds(t, d, "a", "\x80\x01")
	tells(t, "again", d.Flip("a", 7, 3), api.ErrKnown)
	tells(t, "nothing, again", d.Flip("a", 7, 0), api.ErrArg)
	tells(t, "cut", d.Cut("a", 1), api.ErrKnown)
	holds(t, d, "a", "\x80\x01")
}

// P4.4: Cut, and what it tells first.
func TestCut(t *testing.T) {
	d := disk(t, 100)
	tells(t, "no file", d.Cut("a", -1), api.ErrNone)
	done(t, d.Create("a"))
	tells(t, "no bytes", d.Cut("a", 0), api.ErrArg)
	done(t, d.Append("a", []byte("abcd")))
	tells(t, "below 0", d.Cut("a", -1), api.ErrArg)
	tells(t, "its size", d.Cut("a", 4), api.ErrArg)
	tells(t, "the greatest", d.Cut("a", math.MaxInt), api.ErrArg)
	holds(t, d, "a", "abcd")
	tells(t, "three", d.Cut("a", 3), api.OK)
	holds(t, d, "a", "abc")
	tells(t, "again", d.Cut("a", 1), api.ErrKnown)
	tells(t, "its size, again", d.Cut("a", 3), api.ErrArg)
	tells(t, "flip", d.Flip("a", 0, 1), api.ErrKnown)
	done(t, d.Create("b"), d.Append("b", []byte("b")), d.Cut("b", 0))
	holds(t, d, "a", "abc", "b", "")
	if s := d.Stat(); s.Bytes != 3 {
		t.Error(s)
	}
}

// P4.4: what is safe stays so when it is damaged, what is not does not become so; and it is damaged on the disk itself.
func TestDamageAndCrash(t *testing.T) {
	d := disk(t, 100)
	done(t, d.Create("a"), d.Create("b"), d.Create("c"))
	for _, name := range d.List() {
		done(t, d.Append(name, []byte("AB")), d.Sync(name), d.Append(name, []byte("CD")))
	}
	done(t, d.Flip("a", 0, 0x01000001), d.Cut("b", 3), d.Cut("c", 1))
	done(t, d.Append("c", []byte("x")))
	holds(t, d, "a", "@BCE", "b", "ABC", "c", "Ax")
	done(t, d.Crash(), d.Wake(0, 2, 1, 0, 0, 1, 1))
	holds(t, d, "a", "@B\x00E", "b", "AB", "c", "A\x00")
	for _, name := range d.List() {
		tells(t, name+" behind a crash", d.Cut(name, 0), api.ErrKnown)
	}
}

// P4.4: what is damaged stays so by whatever name; a new file of its name is not.
func TestDamageStays(t *testing.T) {
	d := disk(t, 100)
	done(t, d.Create("a"), d.Append("a", []byte("ab")), d.Sync("a"), d.Cut("a", 1), d.Rename("a", "b"))
	tells(t, "renamed", d.Flip("b", 0, 1), api.ErrKnown)
	done(t, d.Create("a"), d.Append("a", []byte("x")), d.Flip("a", 0, 1), d.Append("b", []byte("more")), d.Sync("b"))
	tells(t, "written on", d.Cut("b", 2), api.ErrKnown)
	done(t, d.Remove("b"), d.Create("b"), d.Append("b", []byte("x")))
	tells(t, "a new one", d.Flip("b", 0, 1), api.OK)
	done(t, d.Crash(), d.Wake(0))
	holds(t, d, "a", "", "b", "amore")
	tells(t, "there again", d.Flip("b", 0, 1), api.ErrKnown)
}

// P4.5, R5: of no disk, and of one that New did not tell: ErrNil, nothing.
func TestNoDisk(t *testing.T) {
	for _, d := range []*Disk{nil, {}} {
		for i, call := range append(changing(),
			func(d both) api.Errno { return d.Crash() },
			func(d both) api.Errno { return d.Wake(0) },
			func(d both) api.Errno { return d.Wake(3, 1, 2) },
			func(d both) api.Errno { return d.Flip("a", 0, 1) },
			func(d both) api.Errno { return d.Cut("a", 1) },
		) {
			tells(t, "the call "+strconv.Itoa(i), call(d), api.ErrNil)
		}
		if b, e := d.Read("a", -1, 2); b != nil || e != api.ErrNil {
			t.Errorf("Read: %q, %d", b, e)
		}
		if n, e := d.Size("a"); n != 0 || e != api.ErrNil {
			t.Errorf("Size: %d, %d", n, e)
		}
		d.Arm(1)
		d.Full(1)
		if l, s := d.List(), d.Stat(); len(l) != 0 || s != (Stat{}) {
			t.Errorf("%q, %v", l, s)
		}
	}
}

// P4.6: what was synced is there behind any crash, if no change of its name was made since; a Rename is done, or not, never both.
func TestWhatFollows(t *testing.T) {
	for dirs := range 6 {
		for tear := range 4 {
			d := disk(t, 100)
			done(t, d.Create("a"), d.Append("a", []byte("safe")), d.Create("b"), d.Append("b", []byte("new")), d.Sync("b"), d.Sync("a"))
			done(t, d.Append("a", []byte("---")), d.Create("c"), d.Remove("c"), d.Create("c"), d.Rename("b", "d"), d.Append("d", []byte("!")))
			done(t, d.Crash(), d.Wake(dirs, tear, 1))
			if b, e := d.Read("a", 0, 4); e != api.OK || string(b) != "safe" {
				t.Errorf("%q, %d", b, e)
			}
			if n, e := d.Size("a"); n != 4+tear || e != api.OK {
				t.Errorf("%d, %d", n, e)
			}
			old, e := d.Read("b", 0, 9)
			moved, f := d.Read("d", 0, 9)
			if (e == api.OK) == (f == api.OK) || string(old)+string(moved) != "new" {
				t.Errorf("%q, %q", old, moved)
			}
		}
	}
}

// P4.1 to P4.4: whatever is called, in whatever order, a disk tells what a plain one does.
func TestAsPlain(t *testing.T) {
	for seed := range 1500 {
		r := rand.New(rand.NewSource(int64(seed)))
		room := []int{0, 20, 100, 400, 1 << 26}[r.Intn(5)]
		d, p := disk(t, room), newPlain(room)
		for step := range 120 {
			call := someDeed(r)
			got, want := call(d), call(p)
			if got != want || !same(d, p) {
				t.Fatalf("seed %d, step %d: %d, not %d; %v, not %v", seed, step, got, want, d.Stat(), p.Stat())
			}
		}
	}
}

// same says whether a disk tells what a plain one has.
func same(d *Disk, p *plainDisk) bool {
	if d.Stat() != p.Stat() || !slices.Equal(d.List(), p.names()) {
		return false
	}
	for _, name := range p.names() {
		want := p.dir()[name].bytes
		got, e := d.Read(name, 0, len(want)+1)
		if n, f := d.Size(name); e != api.OK || f != api.OK || n != len(want) || !bytes.Equal(got, want) {
			return false
		}
	}
	return true
}

// R3: what is handed in stays as it is, and is not kept; what is handed out is new memory.
func TestMemory(t *testing.T) {
	d := disk(t, 100)
	b := []byte("abc")
	done(t, d.Create("a"), d.Create("b"), d.Append("a", b[:2]), d.Append("b", b))
	b[0] = 'x'
	if string(b) != "xbc" {
		t.Errorf("an argument was changed: %q", b)
	}
	holds(t, d, "a", "ab", "b", "abc")
	got, _ := d.Read("b", 0, 2)
	got[0] = 'y'
	_ = append(got, "zzzz"...)
	names := d.List()
	names[0] = "z"
	holds(t, d, "a", "ab", "b", "abc")
	done(t, d.Append("a", []byte("c")), d.Flip("b", 0, 1))
	if string(got) != "yb" {
		t.Errorf("what was read has become %q", got)
	}
	holds(t, d, "a", "abc", "b", "`bc")
}

// Two disks have nothing in common; one that is copied is the same disk.
func TestApart(t *testing.T) {
	d, other := disk(t, 100), disk(t, 100)
	done(t, d.Create("a"), d.Append("a", []byte("x")), other.Create("b"))
	same := *d
	done(t, same.Rename("a", "c"), same.Create("a"), d.Remove("c"), d.Crash())
	if d.Stat() != same.Stat() {
		t.Error("a copy is another disk")
	}
	*d = Disk{}
	done(t, same.Wake(1, 1))
	holds(t, &same, "a", "x")
	holds(t, other, "b", "")
}

// Many files, and many changes that wait, take no more time than they need.
func TestMany(t *testing.T) {
	const many = 20000
	d := disk(t, 1<<26)
	for i := range many {
		name := strconv.Itoa(i)
		done(t, d.Create(name), d.Append(name, []byte(name)), d.Rename(name, name+".z"))
	}
	if s := d.Stat(); s.Files != many || s.Waiting != 2*many || len(d.List()) != many {
		t.Error(s)
	}
	done(t, d.Crash(), d.Wake(many, 1, 1))
	if s := d.Stat(); s.Files != many/2 || s.Bytes != 1 {
		t.Error(s)
	}
	for range many {
		done(t, d.Append("1.z", make([]byte, 300)))
	}
}
