package rule

import (
	"slices"
	"strings"
	"testing"

	"dayshift/jdl"
)

func jobOf(t *testing.T, parts string) jdl.Job {
	t.Helper()
	return parsed(t, "job a { "+parts+" }").Jobs[0]
}

func TestDeep(t *testing.T) { // P9.2
	for in, want := range map[string]int{
		"x":                                 0,
		"x.any":                             0,
		"((x))":                             0,
		"not x":                             1,
		"not not x":                         2,
		"x and y":                           1,
		"x or y or z":                       1,
		"x and y or z":                      2,
		"z or x and y":                      2,
		"x and (y or not x.prev)":           3,
		"not (x and y)":                     2,
		"not x and (y or z) and w":          2,
		"not not x or (y or (z and w))":     3,
		"x and not (y or not (z and w))":    5,
		nested("not", 16, "x"):              16,
		nested("not", 15, "(x and y or z)"): 17,
	} {
		if deep := Deep(jobOf(t, "in "+in+";").In); deep != want {
			t.Error("Deep", in, deep, want)
		}
	}
	if deep := Deep(jobOf(t, "").In); deep != 0 {
		t.Error("Deep of none", deep)
	}
	if deep := Deep(jdl.Expr{Op: jdl.And}); deep != 1 {
		t.Error("Deep without kids", deep)
	}
}

func TestNames(t *testing.T) { // P9.2
	for parts, want := range map[string]string{
		"":                           "",
		"in x;":                      "x",
		"in x.any; out +x.prev;":     "x",
		"out +b, -a, +b.prev;":       "b a",
		"in c or b; out +a, -c, +d;": "c b a d",
		"in x and (y or not x.prev); out +z, -y.any;": "x y z",
		"in not not z and (y or x and z) or w;":       "z y x w",
		"out +z; in a;":                               "a z",
		"in a; need r 1; use l shared; days w;":       "a",
	} {
		j := jobOf(t, parts)
		if l := Names(j); strings.Join(l, " ") != want {
			t.Error("Names", parts, l, want)
		}
	}
}

// modelNames has the words of what a job waits for as it is printed, but for those that are no names, then those of its outcomes.
func modelNames(j jdl.Job) []string {
	text := jdl.Print(jdl.Source{Jobs: []jdl.Job{j}})
	var l []string
	for _, part := range []string{"\n  in ", "\n  out "} {
		_, behind, _ := strings.Cut(text, part)
		line, _, _ := strings.Cut(behind, "\n")
		for _, word := range strings.FieldsFunc(line, func(r rune) bool { return strings.ContainsRune(" (),;+-", r) }) {
			name, _, _ := strings.Cut(word, ".")
			if !slices.Contains([]string{"and", "or", "not"}, name) && !slices.Contains(l, name) {
				l = append(l, name)
			}
		}
	}
	return l
}

// modelDeep counts brackets and nots around each condition as it is printed. Nots have no end there: each one ends behind the condition or the bracket that is next.
func modelDeep(e jdl.Expr) int {
	text := jdl.Print(jdl.Source{Jobs: []jdl.Job{{In: e}}})
	_, behind, _ := strings.Cut(text, "\n  in ")
	line, _, _ := strings.Cut(behind, ";")
	line = strings.NewReplacer("(", " ( ", ")", " ) ").Replace(line)
	deepest, nots := 0, 0
	var around []int // how deep it was ahead of each bracket, with no nots
	deep := 0
	for _, word := range strings.Fields(line) {
		switch word {
		case "not":
			nots++
		case "(":
			around = append(around, deep)
			deep, nots = deep+nots+1, 0
		case ")":
			deep = around[len(around)-1]
			around = around[:len(around)-1]
		case "and", "or":
		default:
			deepest, nots = max(deepest, deep+nots), 0
		}
	}
	return deepest
}

func TestAnyNames(t *testing.T) { // P9.2
	most := 0
	for seed := range int64(3000) {
		m := newMaker(seed, 0)
		j := jdl.Job{In: m.expr(int(seed % 6)), Out: m.outs()}
		if l := Names(j); !slices.Equal(l, modelNames(j)) {
			t.Fatal("Names", l, modelNames(j))
		}
		deep := Deep(j.In)
		if deep != modelDeep(j.In) {
			t.Fatal("Deep", deep, modelDeep(j.In), j.In)
		}
		most = max(most, deep)
	}
	if most != 5 {
		t.Error("not deep enough", most)
	}
}

func TestNamesAreTheirOwn(t *testing.T) { // rule 4
	j := jobOf(t, "in x and y; out +z;")
	l := Names(j)
	l[0] = "other"
	_ = append(l[:1], "more")
	if again := Names(j); strings.Join(again, " ") != "x y z" || j.In.Kids[0].Name != "x" || j.Out[0].Name != "z" {
		t.Error("Names", again, j)
	}
}
