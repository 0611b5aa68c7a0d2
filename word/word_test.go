package word_test

import (
	"strings"
	"testing"

	"gramarye/name"
	"gramarye/word"
)

var words = strings.Fields("bool case default else false for func if int look new nil package return struct switch true type")

// Promise 27.1: programs' names, reserved words, types.
func TestIs(t *testing.T) {
	if len(words) != 18 {
		t.Fatalf("%d words", len(words))
	}
	for _, s := range words {
		if !word.Reserved(s) || word.Is(s) || word.Type(s) != (s == "int" || s == "bool") || word.Type("*"+s) {
			t.Errorf("%q: reserved %v, a name %v, a type %v", s, word.Reserved(s), word.Is(s), word.Type(s))
		}
		for _, s := range []string{s + "s", strings.ToUpper(s), s[1:], "_" + s, s + "_"} {
			if !word.Is(s) || word.Reserved(s) || word.Type(s) {
				t.Errorf("%q: a name %v, reserved %v", s, word.Is(s), word.Reserved(s))
			}
		}
	}
	for s, want := range map[string]bool{
		"": false, "a": true, "Z": true, "_": true, "__": true, "a1": true, "_9": true, "9": false, "9a": false, "aB_0Z": true, "a b": false, "a-b": false, "a\n": false, "\u00e9": false, "a\u00e9": false, "&a": false, "a.b": false,
		"goto": true, "map": true, "var": true, "string": true, "sync": true, "token": true, "grammar": true, "rule_a": true,
		strings.Repeat("a", 40): true, strings.Repeat("a", 41): false, "0" + strings.Repeat("a", 39): false,
	} {
		if word.Is(s) != want || word.Type("*"+s) != want || word.Type("**"+s) || word.Type(s) || word.Reserved(s) {
			t.Errorf("%q: a name %v, reserved %v", s, word.Is(s), word.Reserved(s))
		}
		to, ok := word.Points("*" + s)
		if ok != want || ok && to != s || !ok && to != "" {
			t.Errorf("Points(*%s): %q, %v", s, to, ok)
		}
	}
	for _, s := range []string{"int", "bool", "a", "", "*", "*int", "**a", " *a", "* a", "*a "} {
		if to, ok := word.Points(s); ok || to != "" {
			t.Errorf("Points(%q): %q, %v", s, to, ok)
		}
		if word.Type(s) != (s == "int" || s == "bool") {
			t.Errorf("Type(%q)", s)
		}
	}
}

// Promise 27.1, of each byte.
func TestBytes(t *testing.T) {
	for i := range 256 {
		s := string([]byte{byte(i)})
		letter := i == '_' || 'a' <= i && i <= 'z' || 'A' <= i && i <= 'Z'
		if word.Is(s) != letter || word.Is("x"+s) != (letter || '0' <= i && i <= '9') {
			t.Errorf("%q: %v, behind a letter %v", s, word.Is(s), word.Is("x"+s))
		}
	}
}

// Promises 27.2 and 27.3: rules' functions.
func TestRules(t *testing.T) {
	for rule, want := range map[string]string{
		"expr": "rule_expr", "a": "rule_a", "int": "rule_int", "rule_a": "rule_rule_a", strings.Repeat("a", 20): "rule_" + strings.Repeat("a", 20),
		"": "", "A": "", "_a": "", "token": "", "look": "", "sync": "", "grammar": "", "9": "", "a b": "", strings.Repeat("a", 21): "",
	} {
		got := word.Of(rule)
		if got != want {
			t.Errorf("Of(%q): %q", rule, got)
		}
		back, ok := word.Rule("rule_" + rule)
		if ok != name.Name(rule) || ok != (want != "") || ok && (back != rule || !word.Is(got)) || !ok && back != "" {
			t.Errorf("Rule of %q: %q, %v", rule, back, ok)
		}
	}
	for _, s := range []string{"", "rule", "rule_", "Rule_a", "rul_a", "a", "_rule_a", "rule_A", "rule_look", "rule a"} {
		if back, ok := word.Rule(s); ok || back != "" {
			t.Errorf("Rule(%q): %q, %v", s, back, ok)
		}
	}
}
