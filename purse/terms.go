package purse

import (
	"cloak/api"
	"cloak/base"
)

// areTerms reports whether there are terms with a time and a question.
func areTerms(until int, question string) bool {
	return isTime(until) && len(question) <= api.MaxName
}

// Terms returns terms of lending.
func Terms(until int, question string) string {
	if !areTerms(until, question) {
		return ""
	}
	return base.Num(until) + base.Text(question)
}

// ReadTerms returns what terms say.
func ReadTerms(s string) (until int, question string, ok bool) {
	r := base.OpenReader(s)
	until, question = r.Num(), r.Text()
	if !r.Done() || !areTerms(until, question) {
		return 0, "", false
	}
	return until, question, true
}

// Narrows reports whether terms allow no more than others.
func Narrows(inner, outer string) bool {
	until, question, ok := ReadTerms(inner)
	end, allowed, is := ReadTerms(outer)
	return ok && is && until <= end && (allowed == "" || allowed == question)
}
