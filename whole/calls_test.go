package whole

import (
	"math"
	"reflect"
	"strings"
	"testing"

	"gramarye/api"
	"gramarye/bind"
	"gramarye/bnf"
	"gramarye/bound"
	"gramarye/check"
	"gramarye/clash"
	"gramarye/code"
	"gramarye/cost"
	"gramarye/decode"
	"gramarye/desk"
	"gramarye/diag"
	"gramarye/digit"
	"gramarye/drive"
	"gramarye/emit"
	"gramarye/empty"
	"gramarye/first"
	"gramarye/fits"
	"gramarye/follow"
	"gramarye/gram"
	"gramarye/guess"
	"gramarye/lang"
	"gramarye/lex"
	"gramarye/machine"
	"gramarye/name"
	"gramarye/pack"
	"gramarye/parse"
	"gramarye/place"
	"gramarye/prelude"
	"gramarye/print"
	"gramarye/rail"
	"gramarye/reach"
	"gramarye/read"
	"gramarye/run"
	"gramarye/scope"
	"gramarye/script"
	"gramarye/show"
	"gramarye/stop"
	"gramarye/store"
	"gramarye/token"
	"gramarye/tree"
	"gramarye/trie"
	"gramarye/tuple"
	"gramarye/types"
	"gramarye/walk"
	"gramarye/word"
)

// calls are the calls of all layers whose answers hang on their arguments alone.
var calls = []any{
	place.Of, place.At, place.Lines, place.Fault, name.Cap, name.Name, name.Keyword, name.Find, name.Twice, name.Fresh, digit.Print, digit.Parse, digit.Pad, lex.All,
	gram.May, gram.Norm, gram.Same, gram.Depth, gram.Owner, gram.Labels, read.Parse, read.Alts, show.Print, show.Rule, show.Item, bind.Bind, bind.Bound, bind.Lost, bind.Token, bind.Rule,
	bnf.May, bnf.Of, bnf.Prods, bnf.Symbols, bnf.Same, empty.Nothing, empty.Ends, empty.Least, empty.Row, reach.Reached, reach.Left, reach.Begins, reach.Dead, reach.Way,
	tuple.May, tuple.Cat, tuple.At, tuple.Text, tuple.Of, pack.Make, pack.Is, pack.Join, pack.Meet, pack.Has, pack.Cat, pack.Heads, pack.Same,
	first.Of, first.Row, first.Words, follow.Of, follow.Behind, guess.Of, guess.Pick, guess.Heads, clash.Check, clash.All, clash.Where, trie.Make, trie.May, trie.Trie.Choose, trie.Trie.Sets, trie.Trie.Heads,
	stop.Of, stop.Next, cost.Of, cost.Nodes, cost.Most, lang.Accepts, lang.Count, lang.Longest, tree.May, tree.Word, tree.Places, tree.Clean, tree.Text, tree.Same, walk.Walk, walk.Good, fits.Fits, fits.Wrong, diag.Text, diag.All, diag.Rises,
	code.May, code.Norm, code.Same, code.Kids, code.Leaf, code.Find, word.Is, word.Reserved, word.Type, word.Of, word.Rule, word.Points, token.All, token.Text, print.Print, print.Expr, parse.Parse, scope.Check, scope.Struct, scope.Reach, types.Check, types.Of, types.Stands,
	store.Zero, machine.Run, machine.Steps, prelude.Into, emit.Code, emit.Labels, decode.Tree, decode.Objects, run.Run, run.Program, run.Good, check.Check, check.Valid, check.Text, bound.Fuel, bound.Each, drive.Generate, drive.Grammar, drive.Report,
	rail.Boxes, rail.Turn, rail.Picture, rail.Apart, script.Parse, script.Print, desk.Play, desk.Answer,
}

var (
	oddTexts   = []string{"", "a", "b", "X", "T0", "grammar", "look", "int", "*s", "s", "f", "parse", "\x00", "\x01\x02", "1", "007", "\n", "grammar g; look 1; token A; a: A;", "package p\nfunc f() {\n}\n", "read T0\nrun T0\nrail r0", "rule_a", "l", "a: A", strings.Repeat("a", 21), "\xff"}
	oddNumbers = []int{-1, -2, 60, 61, 255, 256, 1000, 100000, math.MaxInt, math.MinInt, math.MaxInt32}
)

// any makes a value of a type, whatever it is.
func (d *dice) any(t reflect.Type, deep int) reflect.Value {
	v := reflect.New(t).Elem()
	switch t.Kind() {
	case reflect.Int, reflect.Int64:
		v.SetInt(int64(d.below(8)))
		if d.below(4) == 0 {
			v.SetInt(int64(oddNumbers[d.below(len(oddNumbers))]))
		}
	case reflect.Bool:
		v.SetBool(d.below(2) == 0)
	case reflect.String:
		v.SetString(oddTexts[d.below(len(oddTexts))])
	case reflect.Slice:
		for range d.below(8 - 2*min(deep, 2)) {
			v = reflect.Append(v, d.any(t.Elem(), deep+1))
		}
	case reflect.Struct:
		for i := range t.NumField() {
			v.Field(i).Set(d.any(t.Field(i).Type, deep+1))
		}
	}
	return v
}

// odd makes one of some things something else, now and then.
func odd[T any](d *dice, l []T) {
	if len(l) > 0 && d.below(3) == 0 {
		reflect.ValueOf(&l[d.below(len(l))]).Elem().Set(d.any(reflect.TypeFor[T](), 1))
	}
}

// near makes a value of a type that is mostly a good one, or nearly so.
func (d *dice) near(t reflect.Type) reflect.Value {
	if t.Kind() != reflect.Struct {
		return d.any(t, 0)
	}
	g, _, _ := bind.Bind(d.grammar())
	c, e := emit.Code(g)
	for e != api.OK {
		g, _, _ = bind.Bind(d.grammar())
		c, e = emit.Code(g)
	}
	switch t {
	case reflect.TypeFor[api.Grammar]():
		odd(d, g.L)
		return reflect.ValueOf(g)
	case reflect.TypeFor[api.Bnf]():
		b, _ := bnf.Of(g)
		odd(d, b.L)
		return reflect.ValueOf(b)
	case reflect.TypeFor[api.Code]():
		odd(d, c.L)
		return reflect.ValueOf(c)
	case reflect.TypeFor[api.Tree]():
		x, _, _ := walk.Walk(g, d.word(g))
		odd(d, x.L)
		return reflect.ValueOf(x)
	case reflect.TypeFor[api.Outcome]():
		o, _ := machine.Run(c, "parse", d.word(g), 100000)
		odd(d, o.L)
		return reflect.ValueOf(o)
	case reflect.TypeFor[trie.Trie]():
		x, _ := trie.Make(2, []string{"ab", "cd"}[:d.below(3)], []string{"bc", "ac"}[:d.below(3)])
		odd(d, x.L)
		return reflect.ValueOf(x)
	}
	return d.any(t, 0)
}

// copied is a value that shares nothing with v.
func copied(v reflect.Value) reflect.Value {
	w := reflect.New(v.Type()).Elem()
	w.Set(v)
	switch v.Kind() {
	case reflect.Slice:
		if !v.IsNil() {
			w.Set(reflect.MakeSlice(v.Type(), v.Len(), v.Len()))
		}
		for i := range v.Len() {
			w.Index(i).Set(copied(v.Index(i)))
		}
	case reflect.Struct:
		for i := range v.NumField() {
			w.Field(i).Set(copied(v.Field(i)))
		}
	}
	return w
}

// spoil overwrites all members of lists in a value.
func spoil(v reflect.Value) {
	switch v.Kind() {
	case reflect.Slice:
		for i := range v.Len() {
			spoil(v.Index(i))
			v.Index(i).SetZero()
		}
	case reflect.Struct:
		for i := range v.NumField() {
			spoil(v.Field(i))
		}
	}
}

// beyond tells whether an argument asks for more than is promised: places, or steps, without end.
func beyond(args []reflect.Value) bool {
	for _, a := range args {
		switch x := a.Interface().(type) {
		case api.Tree:
			for _, n := range x.L {
				if n.To > 1<<20 {
					return true
				}
			}
		case api.Code:
			if last := args[len(args)-1]; last.Kind() == reflect.Int && last.Int() > 1<<20 {
				return true
			}
		}
	}
	return false
}

// P1, P2, and the rules that hold everywhere: each call ends, changes nothing that is handed in, shares nothing with it, and answers the same again.
func TestCalls(t *testing.T) {
	d := &dice{5}
	for _, f := range calls {
		call := reflect.ValueOf(f)
		typ := call.Type()
		do := call.Call
		if typ.IsVariadic() {
			do = call.CallSlice
		}
		for k := range 45 {
			var args, before, first []reflect.Value
			for i := range typ.NumIn() {
				a := d.any(typ.In(i), 0)
				if k%3 > 0 {
					a = d.near(typ.In(i))
				}
				args, before = append(args, a), append(before, copied(a))
			}
			if beyond(args) {
				continue
			}
			out := do(args)
			for i, o := range out {
				first = append(first, copied(o))
				e, ok := out[len(out)-1].Interface().(api.Errno)
				if ok && e != api.OK && i < len(out)-1 && o.Kind() != reflect.Int && !o.IsZero() {
					t.Fatalf("%v: beside %v there is %v", typ, e, o)
				}
				v := reflect.New(o.Type()).Elem()
				v.Set(o)
				spoil(v)
			}
			for i := range args {
				if !reflect.DeepEqual(args[i].Interface(), before[i].Interface()) {
					t.Fatalf("%v: argument %d has changed", typ, i)
				}
			}
			for i, o := range do(args) {
				if !reflect.DeepEqual(o.Interface(), first[i].Interface()) {
					t.Fatalf("%v: answers %v, and then %v", typ, first[i], o)
				}
			}
		}
	}
}
