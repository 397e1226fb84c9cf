package inquiry

import (
	"strconv"
	"strings"

	"cloak/api"
)

// words has the words of findings, by their kinds.
var words = [api.FiKinds]string{"charge", "exposed", "label", "limit", "opening"}

// Report returns findings as a text.
func Report(l []api.Finding) (string, bool) {
	var b strings.Builder
	for _, x := range l {
		if !isIndex(x.Kind, api.FiKinds) || x.A < 0 || x.B < 0 {
			return "", false
		}
		b.WriteString(words[x.Kind] + " " + strconv.Itoa(x.A) + " " + strconv.Itoa(x.B) + "\n")
	}
	return b.String(), true
}

// ReadReport returns the findings of a report.
func ReadReport(s string) ([]api.Finding, bool) {
	var l []api.Finding
	for line := range strings.Lines(s) {
		l = append(l, readFinding(line))
	}
	// Whatever was read from another text has another report, or none.
	if again, ok := Report(l); !ok || again != s {
		return nil, false
	}
	return l, true
}

// readFinding returns the finding with a line, or any other one if there is none.
func readFinding(line string) api.Finding {
	var x api.Finding
	parts := strings.Fields(line)
	if len(parts) != 3 {
		return x
	}
	for kind, word := range words {
		if word == parts[0] {
			x.Kind = kind
		}
	}
	x.A, _ = strconv.Atoi(parts[1])
	x.B, _ = strconv.Atoi(parts[2])
	return x
}
