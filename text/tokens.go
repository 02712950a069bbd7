package text

import "jalousie/api"

// tokens answers the tokens of s, and gives up at the first byte with which none
// begins, or where a name is too long.
func tokens(s string) []api.Token {
	var out []api.Token
	for at := 0; at < len(s); {
		t := api.Token{Kind: api.KWord, Text: name(s[at:]), At: at}
		switch {
		case isBlank(s[at]):
			at++
			continue
		case isSign(s[at : at+1]):
			t.Kind, t.Text = api.KSign, s[at:at+1]
		case t.Text == "":
			giveUp(api.ErrForm, at)
		case len(t.Text) > api.MaxNames:
			giveUp(api.ErrSize, at)
		}
		out = append(out, t)
		at += len(t.Text)
	}
	return out
}

// name answers the longest name that s begins with, "" if it begins with none.
func name(s string) string {
	for at := range len(s) {
		if !isLetter(s[at]) && (at == 0 || !isInner(s[at])) {
			return s[:at]
		}
	}
	return s
}

// isName tells whether s is one name, and not too long.
func isName(s string) bool {
	return s != "" && len(s) <= api.MaxNames && name(s) == s
}

func isSign(s string) bool { return s == ";" || s == "," }

func isBlank(b byte) bool { return b == ' ' || b == '\n' }

func isLetter(b byte) bool { return b >= 'a' && b <= 'z' || b >= 'A' && b <= 'Z' }

// isInner tells whether b stands in names, but is no letter.
func isInner(b byte) bool { return b >= '0' && b <= '9' || b == '_' }
