package printer

import (
	"newel/api"
	"newel/tokens"
)

// Words returns the words of a text.
func Words(text string) ([]string, api.Fault) {
	list, fault := tokens.Raw(text)
	if fault.Code != api.OK {
		return nil, fault
	}
	var words []string
	for len(list) > 0 {
		size := wordSize(list)
		word, e := wordOf(list[:size])
		if e != api.OK {
			return nil, api.Fault{Code: e}
		}
		words = append(words, word)
		list = list[size:]
	}
	return words, api.Fault{}
}

// wordSize returns how many tokens of a list are its first word.
func wordSize(list []tokens.Token) int {
	depth := 0
	for i, t := range list {
		switch t.Kind {
		case tokens.Start:
			depth++
		case tokens.End:
			depth--
		}
		if depth == 0 {
			return i + 1
		}
	}
	return len(list)
}

// wordOf returns the canonical form of a token, or of an interpolated string.
func wordOf(list []tokens.Token) (string, api.Errno) {
	switch list[0].Kind {
	case tokens.Long, tokens.Char, tokens.String, tokens.Start:
		return tokens.Show(list)
	}
	return list[0].Text, api.OK
}
