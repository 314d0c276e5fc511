package tests

import (
	"slices"
	"strings"
)

// shape is a type; it has its bag as a list, in any order.
type shape struct {
	letter string // empty for a type of functions
	from   []*shape
	to     *shape
}

func (a *shape) text() string {
	if a.letter != "" {
		return a.letter
	}
	return "(> " + bagText(a.from) + " " + a.to.text() + ")"
}

func (a *shape) atoms() int {
	if a.letter != "" {
		return 1
	}
	return 1 + bagAtoms(a.from) + a.to.atoms()
}

func bagAtoms(list []*shape) int {
	n := 1
	for _, a := range list {
		n += a.atoms()
	}
	return n
}

func bagText(list []*shape) string {
	return strings.Join(append([]string{"(m"}, sortedTexts(list)...), " ") + ")"
}

// sortedTexts puts each text behind all that are not greater.
func sortedTexts(list []*shape) []string {
	var texts []string
	for _, a := range list {
		text := a.text()
		at := 0
		for at < len(texts) && !isAhead(text, texts[at]) {
			at++
		}
		texts = slices.Insert(texts, at, text)
	}
	return texts
}

// isAhead compares byte by byte.
func isAhead(a, b string) bool {
	for i := 0; i < len(a) && i < len(b); i++ {
		if a[i] != b[i] {
			return a[i] < b[i]
		}
	}
	return len(a) < len(b)
}

func textsOf(list []*shape) []string {
	var texts []string
	for _, a := range list {
		texts = append(texts, a.text())
	}
	return texts
}

func countOf(list []*shape, text string) int {
	n := 0
	for _, a := range list {
		if a.text() == text {
			n++
		}
	}
	return n
}

// shapesOf lists all types with so many atoms.
func shapesOf(atoms int, letters []string) []*shape {
	var list []*shape
	if atoms == 1 {
		for _, letter := range letters {
			list = append(list, &shape{letter: letter})
		}
		return list
	}
	for inBag := 1; inBag <= atoms-2; inBag++ {
		ends := shapesOf(atoms-1-inBag, letters)
		for _, from := range bagsOf(inBag, letters) {
			for _, to := range ends {
				list = append(list, &shape{from: from, to: to})
			}
		}
	}
	return list
}

// bagsOf lists all bags with so many atoms, each one once.
func bagsOf(atoms int, letters []string) [][]*shape {
	var members []*shape
	for n := 1; n < atoms; n++ {
		members = append(members, shapesOf(n, letters)...)
	}
	return choicesOf(members, atoms-1)
}

// choicesOf lists all choices of members, any number of times each, that have so many atoms together.
func choicesOf(members []*shape, atoms int) [][]*shape {
	if atoms == 0 {
		return [][]*shape{nil}
	}
	var list [][]*shape
	for i, a := range members {
		if a.atoms() > atoms {
			continue
		}
		for _, others := range choicesOf(members[i:], atoms-a.atoms()) {
			list = append(list, append([]*shape{a}, others...))
		}
	}
	return list
}

// someShapes are all small types of a tight letter and others; `m` is a letter, too.
func someShapes() []*shape {
	var list []*shape
	for atoms := 1; atoms <= 6; atoms++ {
		list = append(list, shapesOf(atoms, []string{"a", "m", "n"})...)
	}
	return append(list, shapesOf(7, []string{"l", "z"})...)
}

// someBags are all small bags.
func someBags() [][]*shape {
	var list [][]*shape
	for atoms := 1; atoms <= 5; atoms++ {
		list = append(list, bagsOf(atoms, []string{"a", "l", "n"})...)
	}
	list = append(list, bagsOf(6, []string{"m", "n"})...)
	return append(list, bagsOf(7, []string{"a", "l"})...)
}

// fewShapes are put together with bags.
func fewShapes() []*shape {
	var list []*shape
	for atoms := 1; atoms <= 4; atoms++ {
		list = append(list, shapesOf(atoms, []string{"a", "l", "n"})...)
	}
	return list
}

// fewBags are put together with each other.
func fewBags() [][]*shape {
	var list [][]*shape
	for atoms := 1; atoms <= 4; atoms++ {
		list = append(list, bagsOf(atoms, []string{"a", "l", "n"})...)
	}
	return append(list, bagsOf(5, []string{"a"})...)
}
