package syntax_test

import (
	"regexp"
	"slices"
	"strings"
	"testing"

	"keystone/api"
	"keystone/lexis"
	"keystone/syntax"
)

// grammar is the chapter's, with how much deeper than the whole a part is: +1, or +k in the turn k of { }.
const grammar = `
Module  = { Table | Proc } .
Table   = "table" name "(" Columns ";" [ Columns ] ")" ";" .
Columns = name Kind { "," name Kind } .
Kind    = "int" | "bool" | "bytes" | "point" .
Proc    = ( "proc" | "helper" ) name "(" [ Columns ] ")" Kind Block .
Block   = "{" { Stmt+1 } "}" .
Stmt    = "let" name "=" Term+1 ";"
        | name "=" Term+1 ";"
        | "if" Term+1 Block [ "else" Block ]
        | "while" Term+1 Block
        | "get" [ Names ] "=" name "(" Terms+1 ")" ";"
        | "has" name "=" name "(" Terms+1 ")" ";"
        | ( "put" | "add" | "change" ) name "(" Terms+1 ")" "=" "(" [ Terms+1 ] ")" ";"
        | "del" name "(" Terms+1 ")" ";"
        | "for" Names "in" name "(" [ Terms+1 ] ")" "to" "(" [ Terms+1 ] ")" Block
        | "raise" Term+1 ";"
        | "return" Term+1 ";" .
Names   = name { "," name } .
Terms   = Term { "," Term } .
Term    = And { "||" And+k } .
And     = Comp { "&&" Comp+k } .
Comp    = Sum [ ( "<" | "<=" | "==" | "!=" ) Sum+1 ] .
Sum     = Prod { ( "+" | "-" ) Prod+k } .
Prod    = Sole { ( "*" | "/" | "%" ) Sole+k } .
Sole    = ( "-" | "!" ) Sole+1 | Prime .
Prime   = int | text | "true" | "false"
        | name
        | name "(" [ Terms+1 ] ")"
        | "len" "(" Term+1 ")" | "re" "(" Term+1 ")" | "im" "(" Term+1 ")"
        | "point" "(" Term+1 "," Term+1 ")"
        | "(" Term+1 ")" .
`

// spot is where a part of a text begins that a rule says.
type spot struct{ at, depth, turn int }

// part tells all places at which a part of the grammar ends that begins at a spot.
type part func(w *walk, s spot) []int

// walk is one look at a text by the grammar, all ways at once.
type walk struct {
	tokens []api.Token
	far    int  // the last place at which a token was asked for
	deep   bool // whether it would be too deep for one way there
	ends   map[string]map[spot][]int
}

func (w *walk) reach(at int, deep bool) {
	if at > w.far {
		w.far, w.deep = at, false
	}
	w.deep = w.deep || deep && at == w.far
}

// rules are the grammar's, by their names.
type rules map[string]part

func readGrammar() rules {
	l := regexp.MustCompile(`"[^"]*"|[A-Za-z]+|\+[1k]|[][=.|(){}]`).FindAllString(grammar, -1)
	g := rules{}
	for len(l) > 0 {
		name := l[0]
		l = l[2:] // the sign =
		g[name] = g.alternatives(&l)
		l = l[1:] // the dot
	}
	return g
}

func (g rules) alternatives(l *[]string) part {
	all := []part{g.sequence(l)}
	for (*l)[0] == "|" {
		*l = (*l)[1:]
		all = append(all, g.sequence(l))
	}
	return func(w *walk, s spot) []int {
		var ends []int
		for _, p := range all {
			ends = append(ends, p(w, s)...)
		}
		return once(ends)
	}
}

func once(l []int) []int {
	slices.Sort(l)
	return slices.Compact(l)
}

func (g rules) sequence(l *[]string) part {
	var all []part
	for !strings.Contains("|.)]}", (*l)[0]) {
		all = append(all, g.item(l))
	}
	return func(w *walk, s spot) []int {
		ends := []int{s.at}
		for _, p := range all {
			ends = behind(w, p, ends, s)
		}
		return ends
	}
}

// behind are all places at which a part ends that begins at one of some places.
func behind(w *walk, p part, from []int, s spot) []int {
	var ends []int
	for _, s.at = range from {
		ends = append(ends, p(w, s)...)
	}
	return once(ends)
}

func (g rules) item(l *[]string) part {
	first := (*l)[0]
	*l = (*l)[1:]
	switch first {
	case "(", "[", "{":
		inner := g.alternatives(l)
		*l = (*l)[1:] // what closes it
		return wrapped(first, inner)
	case "name", "int", "text":
		return token(func(t api.Token) bool { return sortOf(t) == first })
	}
	if first[0] == '"' {
		return token(func(t api.Token) bool { return t.Kind != api.TText && `"`+t.Text+`"` == first })
	}
	more := ""
	if (*l)[0][0] == '+' {
		more = (*l)[0]
		*l = (*l)[1:]
	}
	return g.rule(first, more)
}

func wrapped(open string, inner part) part {
	return func(w *walk, s spot) []int {
		if open == "(" {
			return inner(w, s)
		}
		all, last := []int{s.at}, []int{s.at}
		for s.turn = 1; len(last) > 0; s.turn++ {
			last = behind(w, inner, last, s)
			all = once(append(all, last...))
			if open == "[" {
				break
			}
		}
		return all
	}
}

// sortOf is what the grammar calls a token that is no word and no sign.
func sortOf(t api.Token) string {
	switch {
	case t.Kind == api.TInt:
		return "int"
	case t.Kind == api.TText:
		return "text"
	case t.Kind == api.TName && !slices.Contains(lexis.Words(), t.Text):
		return "name"
	}
	return ""
}

func token(fits func(api.Token) bool) part {
	return func(w *walk, s spot) []int {
		w.reach(s.at, false)
		if s.at == len(w.tokens) || !fits(w.tokens[s.at]) {
			return nil
		}
		w.reach(s.at+1, false)
		return []int{s.at + 1}
	}
}

// rule is another rule's part, by its name, as it may not be read yet.
func (g rules) rule(name, more string) part {
	counts := strings.Contains(" Stmt Term And Comp Sum Prod Sole Prime ", " "+name+" ")
	return func(w *walk, s spot) []int {
		switch more {
		case "+1":
			s.depth++
		case "+k":
			s.depth += s.turn
		}
		s.turn = 0
		if counts && s.depth > 64 && s.at < len(w.tokens) {
			w.reach(s.at, true)
			return nil
		}
		if w.ends[name] == nil {
			w.ends[name] = map[spot][]int{}
		}
		ends, ok := w.ends[name][s]
		if !ok {
			ends = g[name](w, s)
			w.ends[name][s] = ends
		}
		return slices.Clone(ends)
	}
}

// refused tells where a text's fault is, and which, as the grammar says it.
func (g rules) refused(rule string, depth int, text string) (int, api.Errno) {
	tokens, at, e := lexis.Tokens(text)
	if e != api.OK {
		return at, e
	}
	w := &walk{tokens: tokens, ends: map[string]map[spot][]int{}}
	ends := g[rule](w, spot{depth: depth})
	if slices.Contains(ends, len(tokens)) {
		return 0, api.OK
	}
	at = len(text)
	if w.far < len(tokens) {
		at = tokens[w.far].At
	}
	if w.deep {
		return at, api.ErrDeep
	}
	return at, api.ErrSyntax
}

// wantModel looks at whether Parse refuses a text as the grammar does.
func (g rules) wantModel(t *testing.T, s string) {
	t.Helper()
	want, why := g.refused("Module", 0, s)
	if m, at, e := syntax.Parse(s); at != want || e != why || e != api.OK && said(m) != said(api.Module{}) {
		t.Fatalf("Parse(%q): %.300v, %d, %v, not %d, %v", s, said(m), at, e, want, why)
	}
}

func (g rules) wantTermModel(t *testing.T, s string) {
	t.Helper()
	want, why := g.refused("Term", 1, s)
	if x, at, e := syntax.ParseTerm(s); at != want || e != why || e != api.OK && said(x) != said(api.Term{}) {
		t.Fatalf("ParseTerm(%q): %.300v, %d, %v, not %d, %v", s, said(x), at, e, want, why)
	}
}

// eachRow calls a function with each row of at most so many words out of some, a blank behind each.
func eachRow(out []string, most int, use func(string)) {
	var longer func(string, int)
	longer = func(s string, left int) {
		use(s)
		for i := 0; i < len(out) && left > 0; i++ {
			longer(s+out[i]+" ", left-1)
		}
	}
	longer("", most)
}

func TestAllShortTerms(t *testing.T) { // P13.1
	g := readGrammar()
	eachRow(strings.Fields(`x 1 "" true len point if ( ) , ; - ! < == + * && ||`), 3, func(s string) { g.wantTermModel(t, s) })
	eachRow(strings.Fields("x len point ( ) , - < ||"), 5, func(s string) { g.wantTermModel(t, s) })
}

func TestAllShortStatements(t *testing.T) { // P13.1
	g := readGrammar()
	words := strings.Fields("x 1 let if else while get has put del for in to raise return = ( ) , ; { } + int table")
	eachRow(words, 3, func(s string) { g.wantModel(t, procHead+s) })
}

func TestAllShortModules(t *testing.T) { // P13.1
	g := readGrammar()
	eachRow(strings.Fields("table proc helper x int bytes ( ) { } ; , let 1"), 3, func(s string) { g.wantModel(t, s) })
	eachRow(strings.Fields("x int ; , ( ) table"), 4, func(s string) {
		g.wantModel(t, "table t("+s)
		g.wantModel(t, "proc p("+s)
	})
}

// spoiltTexts have each production of the grammar.
var spoiltTexts = []string{
	"table t ( a int , b bool ; c bytes , d point ) ; table u ( a int ; ) ;",
	"proc p ( a int , b bool ) bytes { } helper h ( ) point { return 1 ; }",
	"proc p ( ) int { let a = 1 ; a = 2 ; raise a ; return a ; }",
	"proc p ( ) int { if a { raise 1 ; } else { return 1 ; } while b { if c { } } }",
	"proc p ( ) int { get = t ( 1 ) ; get a , b = t ( 1 , 2 ) ; has c = t ( 1 ) ; }",
	"proc p ( ) int { put t ( 1 , 2 ) = ( ) ; add t ( 1 ) = ( 2 ) ; change t ( 1 ) = ( 2 , 3 ) ; del t ( 1 ) ; }",
	"proc p ( ) int { for a in t ( ) to ( ) { } for a , b in t ( 1 ) to ( 2 , 3 ) { return a ; } }",
	"proc p ( ) int { return a || b && c < d + e * - f ; }",
	"proc p ( ) int { return ( a <= b ) == ! ( c != d ) ; }",
	"proc p ( ) int { return f ( ) + g ( 1 , \"a\" ) - len ( x ) / re ( y ) % im ( z ) ; }",
	"proc p ( ) int { return point ( 1 , 2 ) * true - false ; }",
}

func TestSpoiltTexts(t *testing.T) { // P13.1: each token taken away, or with each other one in its place, or ahead of it
	g := readGrammar()
	others := strings.Fields(`( ) { } , ; : = == != < <= && || ! + - * / % x 1 "a"`)
	others = append(others, lexis.Words()...)
	for _, s := range spoiltTexts {
		l := strings.Fields(s)
		g.wantModel(t, s)
		for i := range l {
			ahead, behind := strings.Join(l[:i], " ")+" ", " "+strings.Join(l[i+1:], " ")
			g.wantModel(t, ahead)
			g.wantModel(t, ahead+behind)
			for _, x := range others {
				g.wantModel(t, ahead+x+behind)
				g.wantModel(t, ahead+x+" "+l[i]+behind)
			}
		}
	}
}
