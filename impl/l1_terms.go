package impl

import (
	"slices"
	"strconv"
	"strings"
)

// TextMax is the greatest number of bytes of a text.
const TextMax = 8000

// TermMax is the greatest number of atoms of a term.
const TermMax = 400

// nestMax is the greatest number of parentheses within each other.
const nestMax = 300

// nameMax is the greatest number of bytes of a name.
const nameMax = 4

// part is a text that was read: an atom, or the parts between two parentheses.
type part struct {
	atom  string
	parts []*part
}

// reader goes through a text from left to right.
type reader struct {
	text string
	at   int
}

// readText reads a whole text, of whatever the chapters write with atoms and parentheses.
func readText(s string) (*part, bool) {
	if len(s) > TextMax {
		return nil, false
	}
	r := &reader{text: s}
	p, ok := r.readPart(0)
	if !ok || r.at < len(s) {
		return nil, false
	}
	return p, true
}

// readAtMost reads a whole text that has not more than so many atoms.
func readAtMost(s string, atoms int) (*part, bool) {
	p, ok := readText(s)
	if !ok || p.countAtoms() > atoms {
		return nil, false
	}
	return p, true
}

func (r *reader) readPart(nest int) (*part, bool) {
	if r.take('(') {
		return r.readParts(nest + 1)
	}
	return r.readAtom()
}

// readParts refuses a text that is too deep before it goes deeper, so that no text makes the calls too many.
func (r *reader) readParts(nest int) (*part, bool) {
	if nest > nestMax {
		return nil, false
	}
	list := &part{}
	for {
		p, ok := r.readPart(nest)
		if !ok {
			return nil, false
		}
		list.parts = append(list.parts, p)
		if r.take(')') {
			return list, true
		}
		if !r.take(' ') {
			return nil, false
		}
	}
}

// readAtom copies the atom, since atoms are given out in results, which share no memory with arguments.
func (r *reader) readAtom() (*part, bool) {
	start := r.at
	for r.at < len(r.text) && isAtomByte(r.text[r.at]) {
		r.at++
	}
	if r.at == start {
		return nil, false
	}
	return &part{atom: strings.Clone(r.text[start:r.at])}, true
}

func (r *reader) take(b byte) bool {
	if r.at == len(r.text) || r.text[r.at] != b {
		return false
	}
	r.at++
	return true
}

func isLetter(b byte) bool {
	return 'a' <= b && b <= 'z'
}

func isDigit(b byte) bool {
	return '0' <= b && b <= '9'
}

func isAtomByte(b byte) bool {
	return isLetter(b) || isDigit(b) || b == '>'
}

func isName(s string) bool {
	if len(s) == 0 || len(s) > nameMax || !isLetter(s[0]) {
		return false
	}
	for i := 1; i < len(s); i++ {
		if !isDigit(s[i]) {
			return false
		}
	}
	return true
}

func (p *part) countAtoms() int {
	if p.atom != "" {
		return 1
	}
	n := 0
	for _, q := range p.parts {
		n += q.countAtoms()
	}
	return n
}

// form tells what a term is.
type form int

const (
	freeForm form = iota
	boundForm
	lamForm
	appForm
)

// term has depths for the names that are bound, so that no name can be captured.
// Names are put back when it is written: those that its lams keep.
type term struct {
	form  form
	name  string // the free name, or the one that the lam binds
	depth int    // of a bound name: how many lams are between it and its own
	left  *term  // what is within the lam, or the first term of the app
	right *term  // the second term of the app
}

func readTerm(s string) (*term, bool) {
	p, ok := readAtMost(s, TermMax)
	if !ok {
		return nil, false
	}
	return termOf(p, nil, nameOf)
}

// leafReader reads an atom that stands as a term, which for terms is a name alone.
type leafReader func(atom string, scope []string) (*term, bool)

// termOf reads a term that stands within lams; scope has their names, the innermost one last.
func termOf(p *part, scope []string, leaf leafReader) (*term, bool) {
	if p.atom != "" {
		return leaf(p.atom, scope)
	}
	if len(p.parts) != 3 {
		return nil, false
	}
	switch p.parts[0].atom {
	case "lam":
		return lamOf(p.parts[1].atom, p.parts[2], scope, leaf)
	case "app":
		return appOf(p.parts[1], p.parts[2], scope, leaf)
	}
	return nil, false
}

func nameOf(name string, scope []string) (*term, bool) {
	if !isName(name) {
		return nil, false
	}
	for i := range scope {
		if scope[len(scope)-1-i] == name {
			return &term{form: boundForm, depth: i}, true
		}
	}
	return &term{form: freeForm, name: name}, true
}

func lamOf(name string, within *part, scope []string, leaf leafReader) (*term, bool) {
	if !isName(name) {
		return nil, false
	}
	body, ok := termOf(within, append(scope, name), leaf)
	if !ok {
		return nil, false
	}
	return newLam(name, body), true
}

func appOf(first, second *part, scope []string, leaf leafReader) (*term, bool) {
	left, ok := termOf(first, scope, leaf)
	if !ok {
		return nil, false
	}
	right, ok := termOf(second, scope, leaf)
	if !ok {
		return nil, false
	}
	return newApp(left, right), true
}

func newLam(name string, body *term) *term {
	return &term{form: lamForm, name: name, left: body}
}

func newApp(left, right *term) *term {
	return &term{form: appForm, left: left, right: right}
}

// text writes a term that stands within lams with the names of scope.
func (t *term) text(scope []string) string {
	var b strings.Builder
	t.write(&b, scope)
	return b.String()
}

func (t *term) write(b *strings.Builder, scope []string) {
	switch t.form {
	case freeForm:
		b.WriteString(t.name)
	case boundForm:
		b.WriteString(scope[len(scope)-1-t.depth])
	case lamForm:
		b.WriteString("(lam ")
		b.WriteString(t.name)
		b.WriteString(" ")
		t.left.write(b, append(scope, t.name))
		b.WriteString(")")
	case appForm:
		b.WriteString("(app ")
		t.left.write(b, scope)
		b.WriteString(" ")
		t.right.write(b, scope)
		b.WriteString(")")
	}
}

// canonText writes the canonical term. It fails if this is too long to be a term.
// TermMax alone needs to be checked: parentheses come with two atoms at least,
// and a name with at most 4 bytes, so that the other limits are not reached.
func (t *term) canonText() (string, bool) {
	if t.countAtoms() > TermMax {
		return "", false
	}
	return t.canonical().text(nil), true
}

// canonical leaves the depths as they are: names at the lams are all that it changes.
func (t *term) canonical() *term {
	return t.rename(&namer{taken: t.freeNames(nil)})
}

// rename makes each part anew. What was put at several places shares parts before, but a part with a place
// of its own can be told from all others by its pointer.
func (t *term) rename(names *namer) *term {
	switch t.form {
	case lamForm:
		name := names.give()
		return newLam(name, t.left.rename(names))
	case appForm:
		left := t.left.rename(names)
		return newApp(left, t.right.rename(names))
	}
	other := *t
	return &other
}

// namer gives out z0, z1 and so on, but for those that are taken.
type namer struct {
	taken []string
	next  int
}

func (n *namer) give() string {
	for {
		name := "z" + strconv.Itoa(n.next)
		n.next++
		if !slices.Contains(n.taken, name) {
			return name
		}
	}
}

// freeNames adds the free names of a term to those that are there, each one once.
func (t *term) freeNames(there []string) []string {
	switch t.form {
	case freeForm:
		if !slices.Contains(there, t.name) {
			there = append(there, t.name)
		}
	case lamForm:
		there = t.left.freeNames(there)
	case appForm:
		there = t.right.freeNames(t.left.freeNames(there))
	}
	return there
}

// put needs to change no depth in what is put: no name in it is bound outside of it.
func (t *term) put(name string, by *term) *term {
	switch t.form {
	case freeForm:
		if t.name == name {
			return by
		}
	case lamForm:
		return newLam(t.name, t.left.put(name, by))
	case appForm:
		return newApp(t.left.put(name, by), t.right.put(name, by))
	}
	return t
}

func (t *term) countUses(name string) int {
	switch t.form {
	case freeForm:
		if t.name == name {
			return 1
		}
	case lamForm:
		return t.left.countUses(name)
	case appForm:
		return t.left.countUses(name) + t.right.countUses(name)
	}
	return 0
}

func (t *term) countAtoms() int {
	switch t.form {
	case lamForm:
		return 2 + t.left.countAtoms()
	case appForm:
		return 1 + t.left.countAtoms() + t.right.countAtoms()
	}
	return 1
}

func (t *term) size() int {
	switch t.form {
	case lamForm:
		return 1 + t.left.size()
	case appForm:
		return 1 + t.left.size() + t.right.size()
	}
	return 0
}

// spine is a term taken apart from the outside to its first term.
type spine struct {
	lams  []string // the names of the lams around, the innermost one last
	body  *term    // what is within these lams
	first *term    // the first term of all app on the left of the body
	args  []*term  // the second terms of these app, that of the innermost one first
}

func (t *term) takeApart() spine {
	var s spine
	for t.form == lamForm {
		s.lams = append(s.lams, t.name)
		t = t.left
	}
	s.body = t
	for t.form == appForm {
		s.args = append(s.args, t.right)
		t = t.left
	}
	s.first = t
	slices.Reverse(s.args)
	return s
}

// TermValid reports whether a text is a term.
func TermValid(s string) bool {
	_, ok := readTerm(s)
	return ok
}

// TermFree returns the free names of a term in the order in which each one stands free first, and true.
func TermFree(s string) ([]string, bool) {
	t, ok := readTerm(s)
	if !ok {
		return nil, false
	}
	return t.freeNames(nil), true
}

// TermCanon returns the canonical term that is alike, and true.
func TermCanon(s string) (string, bool) {
	t, ok := readTerm(s)
	if !ok {
		return "", false
	}
	return t.canonText()
}

// TermAlike reports whether two texts are terms that are alike.
func TermAlike(a string, b string) bool {
	first, okFirst := TermCanon(a)
	second, okSecond := TermCanon(b)
	return okFirst && okSecond && first == second
}

// TermPut returns the canonical term that is alike to a term with another one put for a name, and true.
func TermPut(s string, name string, by string) (string, bool) {
	t, ok := readTerm(s)
	if !ok || !isName(name) {
		return "", false
	}
	what, ok := readTerm(by)
	if !ok {
		return "", false
	}
	return t.put(name, what).canonText()
}

// TermUses returns how often a name stands free in a term, or -1 if the first text is none or the second one no name.
func TermUses(s string, name string) int {
	t, ok := readTerm(s)
	if !ok || !isName(name) {
		return -1
	}
	return t.countUses(name)
}

// TermSize returns the number of lam and app in a term, or -1 if the text is none.
func TermSize(s string) int {
	t, ok := readTerm(s)
	if !ok {
		return -1
	}
	return t.size()
}

// TermParts returns the term as a number of lam around, a term without lam around, the first term of all app on its left, and the number of these app, as four results, and true.
func TermParts(s string) (int, string, string, int, bool) {
	t, ok := readTerm(s)
	if !ok {
		return 0, "", "", 0, false
	}
	parts := t.takeApart()
	body := parts.body.text(parts.lams)
	first := parts.first.text(parts.lams)
	return len(parts.lams), body, first, len(parts.args), true
}

// TermArgs returns the second terms of all app on the left of a term, from the innermost one on, behind all lam around, and true.
func TermArgs(s string) ([]string, bool) {
	t, ok := readTerm(s)
	if !ok {
		return nil, false
	}
	parts := t.takeApart()
	var args []string
	for _, arg := range parts.args {
		args = append(args, arg.text(parts.lams))
	}
	return args, true
}
