package desk_test

import (
	"fmt"
	"slices"
	"strings"
	"testing"

	"gramarye/api"
	"gramarye/bind"
	"gramarye/desk"
	"gramarye/drive"
	"gramarye/run"
	"gramarye/script"
	"gramarye/show"
)

const letters = "grammar g; look 1; token A, B, C, D;\na: x=b (A y=b)*;\nb: B | C a D;\n"

// Promise 44.1: scripts played.
func TestPlay(t *testing.T) {
	g, _ := drive.Grammar(letters)
	steps := func(w ...int) string {
		_, _, n, e := run.Run(g, w, 1<<40)
		if e != api.OK {
			t.Fatal(e)
		}
		return fmt.Sprintf("steps %d\n", n)
	}
	for _, x := range []struct{ grammar, script, want string }{
		{"grammar g; look 1; token A; a: A;", "read A", "(a A)\n"},
		{letters, "", ""},
		{letters, "# nothing\n\n", ""},
		{letters, "read B A C B D", "(a x:(b B) A y:(b C (a x:(b B)) D))\n"},
		{letters, "read\nread B B", "(a x:(b ?3))\n0: (B | C a D) awaited\n(a x:(b B) <1..2>)\n1: (A y=b)* awaited\n"},
		{letters, "run B\nrun C B", "(a x:(b B))\n" + steps(2) + "(a x:(b C (a x:(b B)) !D))\n2: D awaited\n" + steps(3, 2)},
		{letters, "read B E A F\nrun A E\nread E", "no token E\nno token E\nno token E\n"},
		{letters, "rail b\nrail c\nrail a", "  (B)\n\n  (C) [a] (D)\nno rule c\n[b]\n      (A) [b]\n"},
		{letters, "fuel 5\nrun B\nread B\nfuel 100000\nrun B\n", "error 8\n(a x:(b B))\n(a x:(b B))\n" + steps(2)},
		{letters, "fuel 0\nrun B", "error 8\n"},
		{letters, "show\nlook", "grammar g;\nlook 1;\ntoken A, B, C, D;\na: x=b (A y=b)*;\nb: B | C a D;\nlook 1, choices 2\n"},
		{"grammar g; look 2; token A; a: ;", "look\nrail a\nread", "look 2, choices 0\n\n(a)\n"},
		{letters, "show\nreads A\n", "script: 2: error 5\n"},
		{letters, strings.Repeat(" ", api.MaxText+1), "script: 0: error 7\n"},
		{letters, strings.Repeat("look\n", 501), "script: 501: error 8\n"},
		{letters, strings.Repeat("look\n", 500), strings.Repeat("look 1, choices 2\n", 500)},
		{"grammar g; look 1; token A, B, C;\na: b c;", "reads", "2:4: error 9\n2:6: error 9\n"},
		{"grammar g; look 1; token A, B;\na: A | A B;", "read A", "2:4: error 14\n"},
		{"", "", "1:1: error 5\n"},
		{letters, "read " + strings.Repeat("B ", 1001), "error 7\n"},
		{letters, "run " + strings.Repeat("B ", 1001), "error 7\n"},
	} {
		if got := desk.Play(x.grammar, x.script); got != x.want {
			t.Errorf("%.60q, %.60q: %q, want %q", x.grammar, x.script, got, x.want)
		}
	}
}

// Promise 44.1: the fuel is 1,000,000 at first.
func TestFuel(t *testing.T) {
	var toks []string
	for i := range 50 {
		toks = append(toks, fmt.Sprint("T", i))
	}
	long := "grammar g; look 1; token A, " + strings.Join(toks, ", ") + "; a: (" + strings.Join(toks, "? ") + "? A)*;"
	g, faults := drive.Grammar(long)
	if len(faults) > 0 {
		t.Fatal(faults)
	}
	steps := func(n int) int {
		_, _, s, e := run.Run(g, slices.Repeat([]int{1}, n), 1<<40)
		if e != api.OK {
			t.Fatal(e)
		}
		return s
	}
	// Each token costs the same, so that it can be reckoned for how many a million steps are enough.
	one, each := steps(1), steps(2)-steps(1)
	n := 1 + (1000000-one)/each
	if n >= 1000 || steps(n) > 1000000 || steps(n+1) <= 1000000 {
		t.Fatalf("%d tokens, %d steps, %d", n, steps(n), steps(n+1))
	}
	words := func(n int) string { return "run" + strings.Repeat(" A", n) + "\n" }
	if got := desk.Play(long, words(n)); !strings.HasSuffix(got, fmt.Sprintf("\nsteps %d\n", steps(n))) {
		t.Errorf("%d tokens: %.60q", n, got)
	}
	more := steps(n + 1)
	if got := desk.Play(long, words(n+1)+fmt.Sprintf("fuel %d\n", more-1)+words(n+1)); got != "error 8\nerror 8\n" {
		t.Errorf("one more: %.60q", got)
	}
	if got := desk.Play(long, fmt.Sprintf("fuel %d\n", more)+words(n+1)); !strings.HasSuffix(got, fmt.Sprintf("\nsteps %d\n", more)) {
		t.Errorf("with more fuel: %.60q", got)
	}
}

// Promise 44.1: answers, of lines of all kinds, and of grammars that are not bound.
func TestAnswer(t *testing.T) {
	g, _ := drive.Grammar(letters)
	line := func(kind int, words ...string) script.Line { return script.Line{Kind: kind, N: 7, Words: words} }
	for _, x := range []struct {
		x    script.Line
		fuel int
		want string
	}{
		{line(script.Read, "B"), 0, "(a x:(b B))\n"}, {line(script.Read, "b"), 0, "no token b\n"}, {line(script.Read, "B", ""), 0, "no token \n"},
		{line(script.Run, "B"), 5, "error 8\n"}, {line(script.Run, "B"), -1, "error 2\n"}, {line(script.Run, "x", "y"), -1, "no token x\n"},
		{line(script.Rail), 0, "no rule \n"}, {line(script.Rail, "b", "c"), 0, "  (B)\n\n  (C) [a] (D)\n"}, {line(script.Rail, "X Y"), 0, "no rule X Y\n"},
		{line(script.Fuel, "7"), 0, ""}, {line(0), 0, ""}, {line(7, "A"), 0, ""}, {line(-1), 0, ""},
		{line(script.Look, "x"), 0, "look 1, choices 2\n"}, {line(script.Show, "x"), 0, "grammar g;\nlook 1;\ntoken A, B, C, D;\na: x=b (A y=b)*;\nb: B | C a D;\n"},
	} {
		if got := desk.Answer(g, x.x, x.fuel); got != x.want {
			t.Errorf("%v: %q, want %q", x.x, got, x.want)
		}
	}
	lost, _ := drive.Grammar(letters)
	lost.L[1].N = 0
	for kind := -1; kind < 9; kind++ {
		if got := desk.Answer(lost, line(kind, "B"), -1); got != "error 9\n" {
			t.Errorf("not bound, %d: %q", kind, got)
		}
		if got := desk.Answer(api.Grammar{}, line(kind, "B"), -1); got != "error 8\n" {
			t.Errorf("no grammar, %d: %q", kind, got)
		}
	}
	// A grammar that is bound, but not clear.
	clash, _, _ := bind.Bind(api.Grammar{Name: "g", Look: 1, Toks: []string{"A"}, Rules: []api.Rule{{Name: "a"}}, L: []api.Node{{Kind: api.KAlt, L: []int{1, 2}}, {Kind: api.KTok, Name: "A"}, {Kind: api.KTok, Name: "A"}}})
	for kind, want := range map[int]string{script.Read: "error 14\n", script.Run: "error 14\n", script.Look: "look 1, choices 1\n", script.Show: "grammar g;\nlook 1;\ntoken A;\na: A | A;\n", script.Rail: "no rule A\n"} {
		if got := desk.Answer(clash, line(kind, "A"), 100); got != want {
			t.Errorf("not clear, %d: %q", kind, got)
		}
	}
}

// Promise 44.2: run tells what read tells, and the steps; a grammar that is shown comes to the same.
func TestSame(t *testing.T) {
	for _, grammar := range []string{
		letters,
		"grammar g; look 2; token A, B, C, D; a sync (B, C): (A (B | A D)?)* C;",
		"grammar g; look 1; token A, B, C, D, E; a: l=(A (B | C m=a D)+)? n=b; b: (E k=(B)+)?;",
	} {
		g, faults := drive.Grammar(grammar)
		if len(faults) > 0 {
			t.Fatalf("%q: %v", grammar, faults)
		}
		text, _ := show.Print(g)
		s := ""
		for n := range 60 {
			w := ""
			for m := n * n * 3; m > 0; m /= 4 {
				w += " " + string(rune('A'+m%4))
			}
			read, ran := desk.Play(grammar, "read"+w), desk.Play(grammar, "fuel 2000000000\nrun"+w)
			rest, ok := strings.CutPrefix(ran, read)
			if !ok || !strings.HasPrefix(rest, "steps ") || strings.Count(rest, "\n") != 1 {
				t.Fatalf("%q,%s: %q, %q", grammar, w, read, ran)
			}
			s += "read" + w + "\nrun" + w + "\n"
		}
		s += "show\nlook\nrail a\nrail b\n"
		if desk.Play(grammar, s) != desk.Play(text, s) {
			t.Errorf("%q: shown it comes to another thing", grammar)
		}
	}
}
