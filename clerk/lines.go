package clerk

import (
	"strconv"
	"strings"

	"drifter/api"
)

const (
	blank      = " "
	lineEnd    = "\n"
	nothingDue = "-"
	mostDigits = 6  // of a number in a line
	nobody     = -1 // is who has no number
)

// qualities is how many numbers a barrel has.
const qualities = len(api.BrandBarrel{})

// word is what the first token of a line stands for.
type word struct {
	changes bool                        // whether the line changes something, or asks
	names   func(*Quay) []string        // of those of whom one is named next; nil if nobody is
	least   int                         // how many numbers follow at least
	more    int                         // how many more can follow, again and again
	does    func(*Quay, request) string // what the line does, and its answer
}

// words returns what each word stands for.
func words() map[string]word {
	return map[string]word{
		"day":    {changes: true, least: 1, does: (*Quay).goOn},
		"land":   {changes: true, names: (*Quay).boats, least: 1, does: (*Quay).land},
		"offer":  {changes: true, names: (*Quay).buyers, more: 1, does: (*Quay).offer},
		"sell":   {changes: true, does: (*Quay).sell},
		"cost":   {changes: true, names: (*Quay).boats, least: 1, does: (*Quay).spend},
		"settle": {changes: true, names: (*Quay).boats, does: (*Quay).settle},
		"pay":    {changes: true, names: (*Quay).people, least: 1, does: (*Quay).payOut},
		"paid":   {changes: true, names: (*Quay).buyers, least: 1, does: (*Quay).takeIn},
		"brand":  {changes: true, names: (*Quay).buyers, least: 1, more: qualities, does: (*Quay).promise},
		"due":    {names: (*Quay).people, does: (*Quay).tellDue},
		"owes":   {names: (*Quay).buyers, does: (*Quay).tellOwed},
		"quay":   {does: (*Quay).tellCrans},
		"price":  {does: (*Quay).tellPrice},
		"voyage": {names: (*Quay).boats, does: (*Quay).tellVoyage},
		"sheet":  {does: (*Quay).tellSheet},
		"grade":  {least: qualities, does: (*Quay).tellGrade},
	}
}

// isKept reports whether lines with this word are kept in the journal.
func (w word) isKept() bool { return w.changes }

// anyWord is so of each word.
func anyWord(word) bool { return true }

// fits reports whether so many numbers can be in a line with this word.
func (w word) fits(numbers int) bool {
	over := numbers - w.least
	return over == 0 || over > 0 && w.more > 0 && over%w.more == 0
}

// request is a line that has the form.
type request struct {
	word
	name    string
	who     int // the number of whoever has the name
	numbers []int
}

// leave leaves a line that is an error: do recovers.
func leave(e api.Errno) { panic(e) }

// require leaves a line unless something is so.
func require(is bool, e api.Errno) {
	if !is {
		leave(e)
	}
}

// sure returns the result of a called function, and leaves the line if that is an error.
func sure[T any](x T, e api.Errno) T {
	require(e == api.OK, e)
	return x
}

// read returns what a line asks for; one that does not have the form is left.
func read(line string) request {
	require(len(line) <= api.ClerkLine, api.ErrClerkLine)
	var r request
	at := 0
	for token := range strings.SplitSeq(line, blank) {
		switch {
		case at == 0:
			w, is := words()[token]
			require(is, api.ErrClerkLine)
			r.word = w
		case at == 1 && r.names != nil:
			r.name = token
		default:
			r.numbers = append(r.numbers, number(token))
		}
		at++
	}
	isNamed := r.names == nil || r.name != ""
	require(isNamed && r.fits(len(r.numbers)), api.ErrClerkLine)
	return r
}

// finder returns what finds the number of whoever is meant by a name: nobody, if none of some names is this one.
func finder(names []string) func(name string) int {
	return func(name string) int {
		who := nobody
	names:
		for number, known := range names {
			if known == name {
				who = number
				break names
			}
		}
		return who
	}
}

// number returns the number that a token is.
func number(token string) int {
	n, err := strconv.Atoi(token)
	isPlain := err == nil && n >= 0 && strconv.Itoa(n) == token
	require(isPlain && len(token) <= mostDigits, api.ErrClerkLine)
	return n
}

// do does a line if its word may be there. What a word does checks everything first, so that a line that is left has changed nothing.
func (q *Quay) do(line string, may func(word) bool) (answer string, e api.Errno) {
	defer func() {
		if left := recover(); left != nil {
			answer, e = "", left.(api.Errno)
		}
	}()
	r := read(line)
	require(may(r.word), api.ErrClerkLine)
	if r.isKept() {
		require(len(q.journal) < api.ClerkJournal, api.ErrFull)
	}
	if r.names != nil {
		find := finder(r.names(q))
		r.who = find(r.name)
		require(r.who != nobody, api.ErrClerkUnknown)
	}
	answer = r.does(q, r)
	if r.isKept() {
		q.journal = append(q.journal, line)
	}
	return answer, api.OK
}

// answerOf returns numbers as an answer.
func answerOf(numbers ...int) string {
	var parts []string
	for _, n := range numbers {
		parts = append(parts, strconv.Itoa(n))
	}
	return strings.Join(parts, blank)
}
