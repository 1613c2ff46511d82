package path_test

import (
	"fmt"
	"strings"
	"testing"

	"mantle/api"
	"mantle/path"
)

// grove has one of everything: a with f, b and links; b/c/d; a mount of a/b in z, one of the root in a, a white.
//
//	a/f a/b/c/d a/l->f a/up->.. a/abs->/z a/back->m/f a/m=mount of the root a/w(white)
//	z/g z/mb=mount of a/b z/in->mb z/out->mb/.. z/far->../a/b/c
func grove(t *testing.T) (root *sheet, at map[string]*sheet) {
	t.Helper()
	root = dirSheet()
	at = map[string]*sheet{"": root}
	put := func(p string, m *sheet) {
		t.Helper()
		i := strings.LastIndexByte(p, '/')
		at[p] = at[p[:max(i, 0)]].hold(t, p[i+1:], m)
	}
	for _, p := range []string{"a", "a/b", "a/b/c", "z"} {
		put(p, dirSheet())
	}
	for _, p := range []string{"a/f", "a/b/c/d", "z/g", "f"} {
		put(p, fileSheet(t))
	}
	put("a/m", mountSheet(t, root))
	put("z/mb", mountSheet(t, at["a/b"]))
	put("a/w", whiteSheet())
	for p, to := range map[string]string{
		"a/l": "f", "a/up": "..", "a/abs": "/z", "a/back": "m/f", "a/here": ".", "a/b/top": "/", "a/b/strokes": "//", "a/b/two": "../..",
		"z/in": "mb", "z/out": "mb/..", "z/far": "../a/b/c", "z/white": "/a/w", "z/none": "no", "z/bad": "\x00", "z/behind": "g/..", "z/filed": "g/x", "z/long": strings.Repeat("n", 65), "z/dotted": "./mb/./c/../", "z/slash": "g/",
		"r": "r", "r2": "/r3", "r3": "./r2", "al": "a/l", "aal": "al", "dots": "../../a",
	} {
		put(p, linkSheet(t, to))
	}
	return root, at
}

// same is a walk that leads to the same with follow and without.
func same(t *testing.T, root *sheet, p string, to *sheet, real string) {
	t.Helper()
	leads(t, root, p, to, to, real)
}

// P20.3: the first errors, in their order, whatever is behind them.
func TestP203FirstErrors(t *testing.T) {
	root, at := grove(t)
	long, longest := strings.Repeat("a/", 2049), strings.Repeat("/", 4096)
	for _, p := range []string{"", "a", "\x00", "..", "no", long} {
		failsBoth(t, nil, p, api.ErrNil)
		for _, x := range []string{"f", "al", "a/m", "a/w", "r"} {
			failsBoth(t, at[x], p, api.ErrDir)
		}
	}
	for _, p := range []string{long, longest + "/", longest + "a", "\x00" + longest, "no/" + longest, "r/" + longest, "f/x" + longest, strings.Repeat("n", 4097)} {
		failsBoth(t, root, p, api.ErrLong)
	}
	same(t, root, longest, root, "")
	same(t, root, longest[:4095]+"a", at["a"], "a")
	same(t, root, "a"+longest[:4094]+"f", at["a/f"], "a/f")
	same(t, root, strings.Repeat("a/../", 819)+"a", at["a"], "a")
	failsBoth(t, root, strings.Repeat("n", 4096), api.ErrName)
}

// P20.3: directories and files, and strokes and dots that are no parts.
func TestP203Down(t *testing.T) {
	root, at := grove(t)
	for _, p := range []string{"", "/", "//", ".", "./", "/.", "./."} {
		same(t, root, p, root, "")
	}
	for _, x := range []string{"a", "a/b", "a/b/c", "a/b/c/d", "a/f", "z/g", "f"} {
		for _, p := range []string{x, "/" + x, x + "/", "//" + x + "//", "./" + x + "/.", strings.ReplaceAll(x, "/", "/./"), strings.ReplaceAll(x, "/", "//")} {
			same(t, root, p, at[x], x)
		}
	}
	same(t, at["a"], "b/c", at["a/b/c"], "b/c")
	same(t, at["a"], "/b/c", at["a/b/c"], "b/c")
}

// P20.3: what is behind a file is refused, a name or not; a dot is no part.
func TestP203BehindFile(t *testing.T) {
	root, at := grove(t)
	for _, f := range []string{"f", "a/f", "a/b/c/d", "al", "aal", "a/l", "a/back", "z/slash"} {
		for _, x := range []string{"/x", "/..", "/../..", "/\x00", "/" + strings.Repeat("n", 65), "/./x", "/f", "//.."} {
			failsBoth(t, root, f+x, api.ErrDir)
		}
	}
	for _, x := range []string{"", "/", "/.", "//./"} {
		same(t, root, "f"+x, at["f"], "f")
		same(t, root, "a/f"+x, at["a/f"], "a/f")
	}
}

// P20.3: names that are none, and names that are not there; of a part that is both the first is told, and of parts the first one's.
func TestP203NoNameNone(t *testing.T) {
	root, at := grove(t)
	for _, d := range []string{"", "a/", "a/b/c/", "z/mb/", "a/m/", "dots/"} {
		for _, x := range []string{"\x00", "a\x00b", strings.Repeat("n", 65), "\x00/x", "\x00/..", strings.Repeat("f", 65) + "/f"} {
			failsBoth(t, root, d+x, api.ErrName)
		}
	}
	for _, p := range []string{"no", "b", "a/no", "no/a", "no/..", "no/\x00", "a/no/../f", "...", "..a", "A", strings.Repeat("n", 64), "a/b/f", "a /f", "z/mb/f"} {
		failsBoth(t, root, p, api.ErrNone)
	}
	failsBoth(t, root, "\x00/no", api.ErrName)
	failsBoth(t, root, "a/f/no", api.ErrDir)
	failsBoth(t, at["a/b/c"], "a", api.ErrNone)
}

// P20.3: a white is nothing, wherever it is met.
func TestP203White(t *testing.T) {
	root, _ := grove(t)
	for _, p := range []string{"a/w", "a/w/", "a/w/x", "a/w/..", "a/w/\x00", "a/b/../w", "a/m/a/w", "/a/w/."} {
		failsBoth(t, root, p, api.ErrNone)
	}
	fails(t, root, "z/white", api.ErrNone)
}

// P20.3: two dots lead up, never above the root, and by the row.
func TestP203Up(t *testing.T) {
	root, at := grove(t)
	for _, p := range []string{"..", "../..", "/..", "a/..", "a/../..", "a/b/../..", "a/b/c/../../../../..", "z/../a/.."} {
		same(t, root, p, root, "")
	}
	for p, x := range map[string]string{"../a": "a", "a/b/..": "a", "a/b/c/..": "a/b", "a/../a": "a", "a/b/../f": "a/f", "a/b/../b/c": "a/b/c", "a/b/c/../../f": "a/f", "a/../../z/g": "z/g", "a/b/../../z/../a/b/c/../c/d": "a/b/c/d", "../../../f": "f"} {
		same(t, root, p, at[x], x)
	}
	same(t, at["a/b"], "..", at["a/b"], "") // the root of the walk, though it stands in a
	same(t, at["a/b"], "c/../..", at["a/b"], "")
	failsBoth(t, at["a/b"], "../f", api.ErrNone)
}

// P20.3: a mount leads to the directory under it, and from there up to where the mount stands.
func TestP203Mount(t *testing.T) {
	root, at := grove(t)
	same(t, root, "z/mb", at["a/b"], "z/mb")
	same(t, root, "z/mb/c/d", at["a/b/c/d"], "z/mb/c/d")
	same(t, root, "z/mb/..", at["z"], "z")
	same(t, root, "z/mb/../g", at["z/g"], "z/g")
	same(t, root, "z/mb/c/../../g", at["z/g"], "z/g")
	same(t, root, "z/mb/c/../../..", root, "")
	failsBoth(t, root, "z/mb/../f", api.ErrNone)
	same(t, root, "a/m", root, "a/m") // the root once more, and not the end of the row
	same(t, root, "a/m/..", at["a"], "a")
	same(t, root, "a/m/../f", at["a/f"], "a/f")
	same(t, root, "a/m/f", at["f"], "a/m/f")
	same(t, root, "a/m/a/m/z/mb", at["a/b"], "a/m/a/m/z/mb")
	same(t, root, "a/m/a/m/../..", root, "a/m")
	same(t, root, "a/m/a/m/../../..", at["a"], "a")
	same(t, root, "a/m/../../..", root, "")
	same(t, at["a/m"].under, "z/mb/.", at["a/b"], "z/mb")
	same(t, at["a"], "m/a/b", at["a/b"], "m/a/b")
	same(t, at["a"], "m/..", at["a"], "")
	same(t, at["z"], "mb/../g", at["z/g"], "g")
}

// P20.3: a directory that holds a mount of itself, and one of a directory that stands nowhere.
func TestP203MountOfItself(t *testing.T) {
	root, d, alone := dirSheet(), dirSheet(), dirSheet()
	root.hold(t, "d", d)
	d.mount(t, "m", d)
	f := alone.file(t, "f")
	d.mount(t, "alone", alone)
	alone.mount(t, "home", root)
	for n := range 9 {
		down, up := strings.Repeat("m/", n), strings.Repeat("../", n)
		same(t, root, "d/"+down, d, ("d/" + down)[:2*n+1])
		same(t, root, "d/"+down+up, d, "d")
		same(t, root, "d/"+down+up+"..", root, "")
		same(t, root, "d/"+down+"alone/f", f, "d/"+down+"alone/f")
		same(t, root, "d/"+down+"alone/home", root, "d/"+down+"alone/home")
	}
	same(t, root, "d/m/alone/../m/alone/home/..", alone, "d/m/m/alone")
}

// P20.3: links in the middle are followed always, those at the end by follow alone.
func TestP203Link(t *testing.T) {
	root, at := grove(t)
	for p, x := range map[string][2]string{
		"a/l": {"a/f", "a/f"}, "a/up": {"", ""}, "a/abs": {"z", "z"}, "a/back": {"f", "a/m/f"}, "a/here": {"a", "a"}, "a/b/top": {"", ""}, "a/b/strokes": {"", ""}, "a/b/two": {"", ""},
		"z/in": {"a/b", "z/mb"}, "z/out": {"z", "z"}, "z/far": {"a/b/c", "a/b/c"}, "z/dotted": {"a/b", "z/mb"}, "z/slash": {"z/g", "z/g"},
		"al": {"a/f", "a/f"}, "aal": {"a/f", "a/f"}, "dots": {"a", "a"},
	} {
		for _, q := range []string{p, "/" + p, p + "/", p + "/.", "a/../" + p} {
			leads(t, root, q, at[x[0]], at[p], x[1])
		}
	}
	same(t, root, "a/up/f", at["f"], "f")
	same(t, root, "a/abs/g", at["z/g"], "z/g")
	same(t, root, "a/abs/mb/c", at["a/b/c"], "z/mb/c")
	same(t, root, "a/here/here/here/b", at["a/b"], "a/b")
	same(t, root, "a/b/top/z", at["z"], "z")
	same(t, root, "z/far/d", at["a/b/c/d"], "a/b/c/d")
	same(t, root, "dots/f", at["a/f"], "a/f")
	same(t, root, "z/mb/two/f", at["f"], "f")
	leads(t, root, "a/up/a/up/a/l", at["a/f"], at["a/l"], "a/f")
	leads(t, root, "z/in/two", root, at["a/b/two"], "")
}

// P20.3: behind a link .. leads up from where it led.
func TestP203UpBehindLink(t *testing.T) {
	root, at := grove(t)
	same(t, root, "z/far/..", at["a/b"], "a/b")
	same(t, root, "z/far/../..", at["a"], "a")
	same(t, root, "a/abs/..", root, "")
	same(t, root, "a/up/..", root, "")
	same(t, root, "a/here/..", root, "")
	same(t, root, "a/b/top/../../a/f", at["a/f"], "a/f")
	same(t, root, "z/in/..", at["z"], "z")
	same(t, root, "z/in/c/../../g", at["z/g"], "z/g")
	same(t, root, "z/out/g", at["z/g"], "z/g")
	same(t, root, "a/b/../../z/far/../../f", at["a/f"], "a/f")
}

// P20.3: below a mount a link leads on from there, and with a stroke from the root of the walk.
func TestP203LinkBelowMount(t *testing.T) {
	root, at := grove(t)
	leads(t, root, "z/mb/two", root, at["a/b/two"], "") // up from where the mount stands
	same(t, root, "z/mb/two/a", at["a"], "a")
	leads(t, root, "z/mb/top", root, at["a/b/top"], "")
	leads(t, at["z"], "mb/top", at["z"], at["a/b/top"], "")
	same(t, at["z"], "mb/top/g", at["z/g"], "g")
	leads(t, at["z"], "mb/two", at["z"], at["a/b/two"], "")
	leads(t, root, "a/m/a/abs", at["z"], at["a/abs"], "z")
	leads(t, root, "a/m/a/up", root, at["a/up"], "a/m")
	same(t, root, "a/m/a/up/..", at["a"], "a")
	leads(t, root, "a/m/al", at["a/f"], at["al"], "a/m/a/f")
	fails(t, at["a"], "abs", api.ErrNone) // there is no z from a on
	leads(t, at["a"], "m/z/far", at["a/b/c"], at["z/far"], "m/a/b/c")
}

// P20.3: what is wrong where a link leads is the walk's error.
func TestP203LinkErrors(t *testing.T) {
	root, at := grove(t)
	for x, e := range map[string]api.Errno{"z/white": api.ErrNone, "z/none": api.ErrNone, "z/bad": api.ErrName, "z/long": api.ErrName, "z/behind": api.ErrDir, "z/filed": api.ErrDir, "r": api.ErrLoop, "r2": api.ErrLoop, "r3": api.ErrLoop} {
		fails(t, root, x, e)
		for _, more := range []string{"/x", "/..", "/\x00"} {
			failsBoth(t, root, x+more, e)
		}
		if n, got := path.Walk(root.node, x, false); n != at[x].node || got != api.OK {
			t.Errorf("Walk(%q) without follow answers %v, %v", x, n != nil, got)
		}
	}
}

// P20.3: a link that is followed and leads to none of the parts leaves the walk where it stands.
func TestP203LinkToNoPart(t *testing.T) {
	root := dirSheet()
	d := root.dir(t, "d")
	e := d.dir(t, "e")
	f := e.file(t, "f")
	for i, to := range []string{".", "./", "././.", ".//."} {
		name := fmt.Sprint("dot", i)
		l := e.link(t, name, to)
		leads(t, root, "d/e/"+name, e, l, "d/e")
		same(t, root, "d/e/"+name+"/f", f, "d/e/f")
		same(t, root, "d/e/"+name+"/..", d, "d")
	}
	for i, to := range []string{"/", "//", "/.", "/./", "/..", "//../.."} {
		name := fmt.Sprint("top", i)
		l := e.link(t, name, to)
		leads(t, root, "d/e/"+name, root, l, "")
		same(t, root, "d/e/"+name+"/d", d, "d")
		same(t, root, "d/e/"+name+"/../d/e/f", f, "d/e/f")
	}
}

// chained is a directory in which l1 leads to f, l2 to l1, and so on.
func chained(t *testing.T, n int) (root, f *sheet) {
	t.Helper()
	root = dirSheet()
	f = root.file(t, "f")
	root.link(t, "l1", "f")
	for i := 2; i <= n; i++ {
		root.link(t, fmt.Sprint("l", i), fmt.Sprint("l", i-1))
	}
	return root, f
}

// P20.3: as many links as may be followed, one behind the other, and one more.
func TestP203Loop(t *testing.T) {
	root, f := chained(t, 20)
	for n := 1; n <= 20; n++ {
		name := fmt.Sprint("l", n)
		if n <= 16 {
			leads(t, root, name, f, root.holds[name], "f")
			failsBoth(t, root, name+"/x", api.ErrDir)
			continue
		}
		fails(t, root, name, api.ErrLoop)
		failsBoth(t, root, name+"/x", api.ErrLoop)
		if m, e := path.Walk(root.node, name, false); m != root.holds[name].node || e != api.OK {
			t.Errorf("Walk(%q) without follow answers %v, %v", name, m != nil, e)
		}
	}
}

// P20.3: they count over the whole walk, side by side too, and one that is not followed does not count.
func TestP203LoopSideBySide(t *testing.T) {
	root, f := chained(t, 8)
	here := root.link(t, "here", ".")
	top := root.link(t, "top", "/")
	bad := root.link(t, "bad", "\x00")
	root.white(t, "w")
	for _, x := range []struct {
		name string
		link *sheet
	}{{"here", here}, {"top", top}} {
		ahead := strings.Repeat(x.name+"/", 15)
		leads(t, root, ahead+x.name, root, x.link, "")
		leads(t, root, ahead+x.name+"/", root, x.link, "")
		same(t, root, ahead+x.name+"/f", f, "f")
		leads(t, root, ahead+"l1", f, root.holds["l1"], "f")
		fails(t, root, ahead+"l2", api.ErrLoop)
		ahead += x.name + "/"
		if n, e := path.Walk(root.node, ahead+x.name, false); n != x.link.node || e != api.OK {
			t.Errorf("without follow the last link counts: %v", e)
		}
		fails(t, root, ahead+x.name, api.ErrLoop)
		fails(t, root, ahead+"bad", api.ErrLoop) // ahead of what is wrong where it leads
		failsBoth(t, root, ahead+x.name+"/f", api.ErrLoop)
		failsBoth(t, root, ahead+"no", api.ErrNone)
		failsBoth(t, root, ahead+"w", api.ErrNone)
		failsBoth(t, root, ahead+"\x00", api.ErrName)
		failsBoth(t, root, ahead+"f/"+x.name, api.ErrDir)
	}
	leads(t, root, strings.Repeat("here/../top/", 4)+"l8", f, root.holds["l8"], "f")
	fails(t, root, strings.Repeat("here/../top/", 4)+"here/l8", api.ErrLoop)
	if n, e := path.Walk(root.node, "bad", false); n != bad.node || e != api.OK {
		t.Errorf("Walk of a link to no name answers %v, %v", n != nil, e)
	}
}

// P20.3: links that are as long as can be; the path's own bound is not theirs.
func TestP203LongLinks(t *testing.T) {
	root := dirSheet()
	root.mount(t, "m", root)
	f := root.file(t, "f")
	l := root.link(t, "l", strings.Repeat("m/", 2048))
	up := root.link(t, "up", strings.Repeat("../", 1365)+".")
	strokes := root.link(t, "strokes", strings.Repeat("/", 4096))
	leads(t, root, "strokes", root, strokes, "")
	leads(t, root, "m/m/up", root, up, "")
	for n := 1; n <= 14; n++ { // the row gets longer than any path
		ahead := strings.Repeat("l/", n)
		if got, e := path.Walk(root.node, ahead+"f", true); got != f.node || e != api.OK {
			t.Errorf("behind %d long links stands a node of kind %d, %v", n, got.Kind(), e)
		}
		wantAll(t, root, ahead+"f")
		same(t, root, ahead+"strokes/f", f, "f")
	}
	// 2048 steps down, 1365 up
	leads(t, root, "l/up", root, up, strings.Repeat("m/", 682)+"m")
	same(t, root, "l/up/up/f", f, "f")
	if got, e := path.Walk(root.node, "l", false); got != l.node || e != api.OK {
		t.Error("a long link that is not followed:", e)
	}
}

// P20.3: a row that was cut and gone on with, many times over.
func TestP203CutAndOn(t *testing.T) {
	root := dirSheet()
	at := map[string]*sheet{"": root}
	for _, p := range []string{"a", "a/a", "a/b", "b", "b/a", "b/b", "a/a/a", "a/a/b", "b/b/a", "b/b/b"} {
		i := strings.LastIndexByte(p, '/')
		at[p] = at[p[:max(i, 0)]].dir(t, p[i+1:])
	}
	root.link(t, "l", "/b/b")
	at["b/b"].link(t, "up", "../../a/a")
	for p, x := range map[string]string{
		"a/a/a/../b": "a/a/b", "a/a/a/../../b": "a/b", "a/a/a/../../../b/b/a/../b": "b/b/b", "a/b/../a/b/../a/../../../b/a": "b/a",
		"l/a/../b": "b/b/b", "a/a/../../l/../a": "b/a", "l/up/b/../a": "a/a/a", "l/up/../b": "a/b", "a/../l/up/../../b/b/up/a": "a/a/a",
	} {
		same(t, root, p, at[x], x)
	}
	root.wantStands(t)
}
