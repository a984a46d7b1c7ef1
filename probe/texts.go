package probe

import "strings"

// Texts are all texts of at most n of the parts.
func Texts(n int, parts ...string) []string {
	list := []string{""}
	longest := list
	for range n {
		var longer []string
		for _, s := range longest {
			for _, p := range parts {
				longer = append(longer, s+p)
			}
		}
		list = append(list, longer...)
		longest = longer
	}
	return list
}

// MixedText is a text of right lines and, now and then, a wrong one.
func MixedText(n *Numbers) string {
	var text strings.Builder
	for range n.Below(7) {
		switch n.Below(12) {
		case 0:
			text.WriteString(n.One("", "#", "\t", "# S : a", " | # |", "|"))
		case 1:
			text.WriteString(n.One("S", ": a", "\"S\" :", "| a : b", "S : \"", "S : \"\"", "\x80", "S :a", "S : a\"", "S : \x00 :"))
		default:
			text.WriteString(n.One("S :", "T :", "  U\t:", "|", "a :"))
			for range n.Below(9) {
				text.WriteString(n.One(" ", " ", "  ", "\t"))
				text.WriteString(n.One("|", "|", "S", "T", "U", "a", "b", "\"S\"", "\"|\"", "\":\"", "\"a b\"", "\"a\"", "::", "|b", "#"))
			}
		}
		text.WriteString("\n")
	}
	if s := text.String(); n.Below(2) == 0 {
		return strings.TrimSuffix(s, "\n")
	}
	return text.String()
}
