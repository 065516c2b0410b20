package name

import "strings"

// plain is how many bytes, from 0 on, have the runes of their own numbers.
const plain = 128

// upper are the runes of the other bytes by the code page, in order.
var upper = [256 - plain]rune{
	'Ç', 'ü', 'é', 'â', 'ä', 'à', 'å', 'ç', 'ê', 'ë', 'è', 'ï', 'î', 'ì', 'Ä', 'Å',
	'É', 'æ', 'Æ', 'ô', 'ö', 'ò', 'û', 'ù', 'ÿ', 'Ö', 'Ü', '¢', '£', '¥', '₧', 'ƒ',
	'á', 'í', 'ó', 'ú', 'ñ', 'Ñ', 'ª', 'º', '¿', '⌐', '¬', '½', '¼', '¡', '«', '»',
	'░', '▒', '▓', '│', '┤', '╡', '╢', '╖', '╕', '╣', '║', '╗', '╝', '╜', '╛', '┐',
	'└', '┴', '┬', '├', '─', '┼', '╞', '╟', '╚', '╔', '╩', '╦', '╠', '═', '╬', '╧',
	'╨', '╤', '╥', '╙', '╘', '╒', '╓', '╫', '╪', '┘', '┌', '█', '▄', '▌', '▐', '▀',
	'α', 'ß', 'Γ', 'π', 'Σ', 'σ', 'µ', 'τ', 'Φ', 'Θ', 'Ω', 'δ', '∞', 'φ', 'ε', '∩',
	'≡', '±', '≥', '≤', '⌠', '⌡', '÷', '≈', '°', '∙', '·', '√', 'ⁿ', '²', '■', '\u00a0',
}

// runeOf is b's rune by the code page.
func runeOf(b byte) rune {
	if b < plain {
		return rune(b)
	}
	return upper[b-plain]
}

// byPage is raw's runes by the code page.
func byPage(raw []byte) string {
	var name strings.Builder
	for _, b := range raw {
		name.WriteRune(runeOf(b))
	}
	return name.String()
}

// bytesByRune tells of each rune of the code page which byte is its. It is worked out of runeOf, so that the two can't differ.
func bytesByRune() map[rune]byte {
	page := make(map[rune]byte, 256)
	for b := range 256 {
		page[runeOf(byte(b))] = byte(b)
	}
	return page
}
