package parse_test

import (
	"math/rand"
	"slices"
	"strings"
	"testing"

	"bluebell/api"
	"bluebell/lex"
	"bluebell/parse"
)

// chapter is the chapter's grammar with its lists written out, but for assignments and the like; the first way to write something leads to the shortest one.
const chapter = `
Section   ::= Head Decls
Head      ::= || section string
Decls     ::= || Decls Decl
Decl      ::= manifest { Consts } || static { Consts } || global { Globals } || Procs
Consts    ::= || ConstList
ConstList ::= name = E || ConstList ; name = E
Globals   ::= || GlobList
GlobList  ::= name : E || GlobList ; name : E
Procs     ::= let Proc || Procs and Proc
Proc      ::= name ( Names ) = E || name ( Names ) be C
Names     ::= || NameList
NameList  ::= name || NameList , name
Block     ::= { Items }
Items     ::= Item || Items ; Item
Item      ::= C || let name = vec E
C         ::= || if E do C || unless E do C || test E then C else C || while E do C || until E do C || for name = E to E do C || for name = E to E by E do C || switchon E into Block || case E : C || default : C || name : C || Repeated
Repeated  ::= Basic || Repeated repeat || Repeated repeatwhile E || Repeated repeatuntil E
Basic     ::= Call || Block || break || loop || endcase || return || finish || resultis E || goto name
Call      ::= Called ( Args ) || ( Call )
Called    ::= E11 || Called ( Args )
Args      ::= || List
List      ::= E || List , E
E         ::= E1 || E1 -> E , E
E1        ::= E2 || E1 xor E2 || E1 eqv E2
E2        ::= E3 || E2 | E3
E3        ::= E4 || E3 & E4
E4        ::= E5 || ~ E4
E5        ::= E6 || E6 = E6 || E6 ~= E6 || E6 < E6 || E6 <= E6 || E6 > E6 || E6 >= E6
E6        ::= E7 || E6 << E7 || E6 >> E7
E7        ::= E8 || - E8 || E7 + E8 || E7 - E8
E8        ::= E9 || E8 * E9 || E8 / E9 || E8 rem E9
E9        ::= E10 || E9 ! E10 || E9 % E10 || E9 of E10
E10       ::= Called || ! E10 || @ E10
E11       ::= number || string || true || false || ? || name || ( E ) || valof Block || table ( List ) || slct ( E , E , E )
`

// grammar is what may stand for each word that is defined.
type grammar map[string][][]string

func chapterGrammar() grammar {
	g := grammar{}
	for _, line := range strings.Split(strings.TrimSpace(chapter), "\n") {
		left, right, _ := strings.Cut(line, "::=")
		for _, way := range strings.Split(right, "||") {
			g[strings.TrimSpace(left)] = append(g[strings.TrimSpace(left)], strings.Fields(way))
		}
	}
	for count := 1; count <= api.MaxArgs; count++ {
		names, exprs := strings.Fields("name"+times(" , name", count-1)), strings.Fields("E"+times(" , E", count-1))
		g["Basic"] = append(g["Basic"], slices.Concat(exprs, []string{":="}, exprs))
		g["Item"] = append(g["Item"], slices.Concat([]string{"let"}, names, []string{"="}, exprs))
	}
	return g
}

// item says that of a way to write left, beginning at the token from, what comes before dot is read.
type item struct {
	left      string
	way, dot  int
	from, now int
}

// reading is the sets of items before each token.
type reading struct {
	grammar
	sets [][]item
}

func (r *reading) add(it item) {
	if !slices.Contains(r.sets[it.now], it) {
		r.sets[it.now] = append(r.sets[it.now], it)
	}
}

func (r *reading) next(it item) string {
	if way := r.grammar[it.left][it.way]; it.dot < len(way) {
		return way[it.dot]
	}
	return ""
}

// predict adds the ways to write a word; one without tokens goes on at once.
func (r *reading) predict(it item, word string) {
	for way, words := range r.grammar[word] {
		r.add(item{left: word, way: way, from: it.now, now: it.now})
		if len(words) == 0 {
			it.dot++
			r.add(it)
		}
	}
}

func (r *reading) complete(done item) {
	for i := 0; i < len(r.sets[done.from]); i++ {
		if it := r.sets[done.from][i]; r.next(it) == done.left {
			it.dot++
			it.now = done.now
			r.add(it)
		}
	}
}

// refused returns which of some words, as Earley's method reads them, is the first one that no sentence of the word start has there; all of them taken, it is their number; a whole sentence is -1.
func (g grammar) refused(start string, words []string) int {
	r := reading{g, make([][]item, len(words)+2)}
	for way := range g[start] {
		r.add(item{left: start, way: way})
	}
	for now := range len(words) + 1 {
		whole := false
		for i := 0; i < len(r.sets[now]); i++ {
			it := r.sets[now][i]
			switch next := r.next(it); {
			case next == "":
				whole = whole || it.left == start && it.from == 0
				r.complete(it)
			case g[next] != nil:
				r.predict(it, next)
			case now < len(words) && next == words[now]:
				it.dot++
				it.now = now + 1
				r.add(it)
			}
		}
		if now == len(words) && whole {
			return -1
		}
		if len(r.sets[now+1]) == 0 {
			return now
		}
	}
	return len(words)
}

// sentence makes words that stand for a word; the first ways are taken when the budget is used up, and mostly in expressions.
func (g grammar) sentence(r *rand.Rand, word string, budget int) []string {
	ways := g[word]
	if ways == nil {
		return []string{word}
	}
	way := ways[r.Intn(len(ways))]
	if budget <= 0 || strings.HasPrefix(word, "E") && r.Intn(3) > 0 {
		way = ways[0]
	}
	var words []string
	for _, w := range way {
		words = append(words, g.sentence(r, w, budget-1)...)
	}
	return words
}

// broken returns words of which some are changed.
func broken(r *rand.Rand, words, all []string) []string {
	for range r.Intn(3) {
		at := r.Intn(len(words) + 1)
		switch r.Intn(3) {
		case 0:
			words = slices.Insert(slices.Clone(words), at, all[r.Intn(len(all))])
		case 1:
			words = slices.Delete(slices.Clone(words), min(at, len(words)), min(at+1+r.Intn(2), len(words)))
		case 2:
			if at < len(words) {
				words = slices.Clone(words)
				words[at] = all[r.Intn(len(all))]
			}
		}
	}
	return words
}

// P3.1: what Parse, Expr and Command take, and the first token that they do not take, are those of the chapter's grammar.
func TestAgainstTheGrammar(t *testing.T) {
	g := chapterGrammar()
	all := append(append(lex.Keys(), lex.Signs()...), "name", "number", "string", "name", "number")
	starts := map[string]func(src string) (api.Errno, int){
		"Section": func(src string) (api.Errno, int) { _, err, place := parse.Parse(src); return err, place },
		"E":       func(src string) (api.Errno, int) { _, err, place := parse.Expr(src); return err, place },
		"C":       func(src string) (api.Errno, int) { _, err, place := parse.Command(src); return err, place },
	}
	r := rand.New(rand.NewSource(6))
	good, bad := 0, 0
	for range 6000 {
		start := []string{"Section", "E", "C"}[r.Intn(3)]
		words := broken(r, g.sentence(r, start, 8+r.Intn(10)), all)
		if len(words) > 60 {
			continue
		}
		src := strings.NewReplacer("name", "x", "number", "7", "string", "\"s\"").Replace(strings.Join(words, " "))
		tokens, _, _ := lex.Scan(src)
		err, place := starts[start](src)
		refused := g.refused(start, words)
		switch {
		case err == api.ErrLimit || err == api.ErrDeep: // which the grammar does not tell
		case refused < 0:
			good++
			if err != api.OK || place != 0 {
				t.Fatalf("%s %q: error %d at %d", start, src, err, place)
			}
		default:
			bad++
			if err != api.ErrToken || place != tokens[refused].At {
				t.Fatalf("%s %q: error %d at %d; want ErrToken at %d", start, src, err, place, tokens[refused].At)
			}
		}
	}
	if good < 1000 || bad < 1000 {
		t.Errorf("only %d sentences and %d others", good, bad)
	}
}
