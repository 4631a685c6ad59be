package text

import (
	"strconv"
	"strings"

	"superpose/api"
)

// Words of texts, for writing and for reading.
const (
	variable    = "X"
	function    = "f"
	open        = "("
	comma       = ","
	shut        = ")"
	same        = " = "
	notSame     = " != "
	or          = " | "
	emptyClause = "$false"
)

func sign(l api.Literal) string {
	if l.Yes {
		return same
	}
	return notSame
}

// written is the text of terms with commas between, as arguments have them.
func written(terms ...api.Term) string {
	var b strings.Builder
	write(&b, terms...)
	return b.String()
}

func write(b *strings.Builder, terms ...api.Term) {
	for i, t := range terms {
		if i > 0 {
			b.WriteString(comma)
		}
		b.WriteString(name(t))
		if len(t.Args) > 0 {
			b.WriteString(open)
			write(b, t.Args...)
			b.WriteString(shut)
		}
	}
}

func name(t api.Term) string {
	if t.Var != 0 {
		return variable + strconv.Itoa(t.Var)
	}
	return function + strconv.Itoa(t.Fn)
}
