package row

import (
	"strings"

	"gramarye/api"
)

// step is a set to which a row has come, by its place, and the symbol behind.
type step struct {
	at int
	s  api.Sym
}

// Known puts rows together whose symbols' sets grow no more; no step is taken twice.
type Known struct {
	sets [][]string
	most int
	cat  func(a, b []string) []string
	// come are the sets to which rows have come, at finds their places; next tells where steps lead, -1 if to too much.
	come [][]string
	at   map[string]int
	next map[step]int
}

// Know makes a Known for nonterminals' sets, cat putting two together, of which none has more than most texts.
func Know(sets [][]string, most int, cat func(a, b []string) []string) *Known {
	k := &Known{sets: sets, most: most, cat: cat, at: map[string]int{}, next: map[step]int{}}
	k.place([]string{""})
	return k
}

// Row tells what a row stands for; false, if what some of its first symbols stand for is too much.
func (k *Known) Row(l []api.Sym) ([]string, bool) {
	i := 0
	for _, s := range l {
		x := step{i, s}
		to, ok := k.next[x]
		if !ok {
			to = k.place(k.cat(k.come[i], Set(s, k.sets)))
			k.next[x] = to
		}
		if to < 0 {
			return nil, false
		}
		i = to
	}
	return k.come[i], true
}

// place tells the place of a set; -1, if it is too much.
func (k *Known) place(set []string) int {
	if len(set) > k.most {
		return -1
	}
	var s strings.Builder
	for _, t := range set {
		s.WriteByte(byte(len(t)))
		s.WriteString(t)
	}
	i, ok := k.at[s.String()]
	if !ok {
		i = len(k.come)
		k.come = append(k.come, set)
		k.at[s.String()] = i
	}
	return i
}
