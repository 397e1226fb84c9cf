package ask

import (
	"slices"
	"strconv"
	"strings"

	"cloak/api"
	"cloak/base"
)

// Print returns the canonical source text of a question.
func Print(name string, p api.Pred) (string, bool) {
	if !plain(name) || !ValidPred(p) {
		return "", false
	}
	texts := slices.Concat([]string{"question", name, "{"}, predTexts(p), []string{"}"})
	tokens := make([]api.Token, len(texts))
	for i, text := range texts {
		// Names, numbers and signs are printed in the same way.
		tokens[i] = api.Token{Kind: api.TkName, Text: text}
	}
	s := base.Print(tokens)
	if len(s) > api.MaxSource {
		return "", false
	}
	return s, true
}

// predTexts returns the texts of the canonical tokens of a predicate.
func predTexts(p api.Pred) []string {
	switch p.Kind {
	case api.PrAll:
		return between(p.Kids, "and", enclosedTexts)
	case api.PrSome:
		return between(p.Kids, "or", enclosedTexts)
	case api.PrLeast:
		return slices.Concat([]string{"at", "least", strconv.Itoa(p.C), "of", "("}, between(p.Kids, ",", predTexts), []string{")"})
	}
	return slices.Concat(sideTexts(p.Left, 0), []string{"<="}, sideTexts(p.Right, p.C))
}

// between returns the texts of all kids, with a word or a sign between them.
func between(kids []api.Pred, sign string, texts func(api.Pred) []string) []string {
	var l []string
	for i, kid := range kids {
		if i > 0 {
			l = append(l, sign)
		}
		l = append(l, texts(kid)...)
	}
	return l
}

// enclosedTexts returns the texts of one of the Kids of PrAll or PrSome.
func enclosedTexts(p api.Pred) []string {
	if p.Kind != api.PrAll && p.Kind != api.PrSome {
		return predTexts(p)
	}
	return slices.Concat([]string{"("}, predTexts(p), []string{")"})
}

// sideTexts returns the texts of one side of an atom: a name, if there is one, and a number.
func sideTexts(name string, c int) []string {
	number := strconv.Itoa(max(c, -c))
	first, second, ok := strings.Cut(name, ".")
	switch {
	case ok && c == 0:
		return []string{first, ".", second}
	case ok && c < 0:
		return []string{first, ".", second, "-", number}
	case ok:
		return []string{first, ".", second, "+", number}
	case c < 0:
		return []string{"-", number}
	}
	return []string{number}
}
