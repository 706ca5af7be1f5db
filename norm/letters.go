package norm

// letterOf tells what the letter r is without the mark that markOf tells; 0, if it has none.
func letterOf(r rune) rune {
	switch {
	case within(r, firstGreek, greeks):
		return greek(r)
	case within(r, firstCyrillic, cyrillics):
		return cyrillic(r)
	}
	if letter := greatLatin(r); letter != 0 {
		return letter
	}
	return smallLatin(r)
}

// markOf tells the mark that the letter r has as its last one; 0, if it has none.
func markOf(r rune) rune {
	switch r {
	case 'À', 'È', 'Ì', 'Ò', 'Ù', 'à', 'è', 'ì', 'ò', 'ù', 'Ầ', 'ầ', 'Ề', 'ề', 'Ồ', 'ồ':
		return 0x0300
	case 'Á', 'É', 'Í', 'Ó', 'Ú', 'Ý', 'á', 'é', 'í', 'ó', 'ú', 'ý', 'Ć', 'ć', 'Ĺ', 'ĺ',
		'Ń', 'ń', 'Ŕ', 'ŕ', 'Ś', 'ś', 'Ź', 'ź', 'Ά', 'Έ', 'Ή', 'Ί', 'Ό', 'Ύ', 'Ώ', 'ΐ',
		'ά', 'έ', 'ή', 'ί', 'ΰ', 'ό', 'ύ', 'ώ', 'Ѓ', 'Ќ', 'ѓ', 'ќ', 'Ấ', 'ấ', 'Ế', 'ế',
		'Ố', 'ố':
		return 0x0301
	case 'Â', 'Ê', 'Î', 'Ô', 'Û', 'â', 'ê', 'î', 'ô', 'û', 'Ĉ', 'ĉ', 'Ĝ', 'ĝ', 'Ĥ', 'ĥ',
		'Ĵ', 'ĵ', 'Ŝ', 'ŝ', 'Ŵ', 'ŵ', 'Ŷ', 'ŷ':
		return 0x0302
	case 'Ã', 'Ñ', 'Õ', 'ã', 'ñ', 'õ', 'Ĩ', 'ĩ', 'Ũ', 'ũ':
		return 0x0303
	case 'Ā', 'ā', 'Ē', 'ē', 'Ī', 'ī', 'Ō', 'ō', 'Ū', 'ū':
		return 0x0304
	case 'Ă', 'ă', 'Ĕ', 'ĕ', 'Ğ', 'ğ', 'Ĭ', 'ĭ', 'Ŏ', 'ŏ', 'Ŭ', 'ŭ', 'Ў', 'Й', 'й', 'ў':
		return 0x0306
	case 'Ċ', 'ċ', 'Ė', 'ė', 'Ġ', 'ġ', 'İ', 'Ż', 'ż':
		return 0x0307
	case 'Ä', 'Ë', 'Ï', 'Ö', 'Ü', 'ä', 'ë', 'ï', 'ö', 'ü', 'ÿ', 'Ÿ', 'Ϊ', 'Ϋ', 'ϊ', 'ϋ',
		'Ё', 'Ї', 'ё', 'ї':
		return 0x0308
	case 'Å', 'å', 'Ů', 'ů':
		return 0x030A
	case 'Ő', 'ő', 'Ű', 'ű':
		return 0x030B
	case 'Č', 'č', 'Ď', 'ď', 'Ě', 'ě', 'Ľ', 'ľ', 'Ň', 'ň', 'Ř', 'ř', 'Š', 'š', 'Ť', 'ť',
		'Ž', 'ž':
		return 0x030C
	case 'Ç', 'ç', 'Ģ', 'ģ', 'Ķ', 'ķ', 'Ļ', 'ļ', 'Ņ', 'ņ', 'Ŗ', 'ŗ', 'Ş', 'ş', 'Ţ', 'ţ':
		return 0x0327
	case 'Ą', 'ą', 'Ę', 'ę', 'Į', 'į', 'Ų', 'ų':
		return 0x0328
	}
	return 0
}

func greatLatin(r rune) rune {
	switch r {
	case 'À', 'Á', 'Â', 'Ã', 'Ä', 'Å', 'Ā', 'Ă', 'Ą':
		return 'A'
	case 'Ç', 'Ć', 'Ĉ', 'Ċ', 'Č':
		return 'C'
	case 'Ď':
		return 'D'
	case 'È', 'É', 'Ê', 'Ë', 'Ē', 'Ĕ', 'Ė', 'Ę', 'Ě':
		return 'E'
	case 'Ĝ', 'Ğ', 'Ġ', 'Ģ':
		return 'G'
	case 'Ĥ':
		return 'H'
	case 'Ì', 'Í', 'Î', 'Ï', 'Ĩ', 'Ī', 'Ĭ', 'Į', 'İ':
		return 'I'
	case 'Ĵ':
		return 'J'
	case 'Ķ':
		return 'K'
	case 'Ĺ', 'Ļ', 'Ľ':
		return 'L'
	case 'Ñ', 'Ń', 'Ņ', 'Ň':
		return 'N'
	case 'Ò', 'Ó', 'Ô', 'Õ', 'Ö', 'Ō', 'Ŏ', 'Ő':
		return 'O'
	case 'Ŕ', 'Ŗ', 'Ř':
		return 'R'
	case 'Ś', 'Ŝ', 'Ş', 'Š':
		return 'S'
	case 'Ţ', 'Ť':
		return 'T'
	case 'Ù', 'Ú', 'Û', 'Ü', 'Ũ', 'Ū', 'Ŭ', 'Ů', 'Ű', 'Ų':
		return 'U'
	case 'Ŵ':
		return 'W'
	case 'Ý', 'Ŷ', 'Ÿ':
		return 'Y'
	case 'Ź', 'Ż', 'Ž':
		return 'Z'
	case 'Ấ', 'Ầ':
		return 'Â'
	case 'Ế', 'Ề':
		return 'Ê'
	case 'Ố', 'Ồ':
		return 'Ô'
	}
	return 0
}

func smallLatin(r rune) rune {
	switch r {
	case 'à', 'á', 'â', 'ã', 'ä', 'å', 'ā', 'ă', 'ą':
		return 'a'
	case 'ç', 'ć', 'ĉ', 'ċ', 'č':
		return 'c'
	case 'ď':
		return 'd'
	case 'è', 'é', 'ê', 'ë', 'ē', 'ĕ', 'ė', 'ę', 'ě':
		return 'e'
	case 'ĝ', 'ğ', 'ġ', 'ģ':
		return 'g'
	case 'ĥ':
		return 'h'
	case 'ì', 'í', 'î', 'ï', 'ĩ', 'ī', 'ĭ', 'į':
		return 'i'
	case 'ĵ':
		return 'j'
	case 'ķ':
		return 'k'
	case 'ĺ', 'ļ', 'ľ':
		return 'l'
	case 'ñ', 'ń', 'ņ', 'ň':
		return 'n'
	case 'ò', 'ó', 'ô', 'õ', 'ö', 'ō', 'ŏ', 'ő':
		return 'o'
	case 'ŕ', 'ŗ', 'ř':
		return 'r'
	case 'ś', 'ŝ', 'ş', 'š':
		return 's'
	case 'ţ', 'ť':
		return 't'
	case 'ù', 'ú', 'û', 'ü', 'ũ', 'ū', 'ŭ', 'ů', 'ű', 'ų':
		return 'u'
	case 'ŵ':
		return 'w'
	case 'ý', 'ÿ', 'ŷ':
		return 'y'
	case 'ź', 'ż', 'ž':
		return 'z'
	case 'ấ', 'ầ':
		return 'â'
	case 'ế', 'ề':
		return 'ê'
	case 'ố', 'ồ':
		return 'ô'
	}
	return 0
}

// Both sides are Greek here, though some look like Latin letters.
func greek(r rune) rune {
	switch r {
	case 'Ά':
		return 'Α'
	case 'Έ':
		return 'Ε'
	case 'Ή':
		return 'Η'
	case 'Ί', 'Ϊ':
		return 'Ι'
	case 'Ό':
		return 'Ο'
	case 'Ύ', 'Ϋ':
		return 'Υ'
	case 'Ώ':
		return 'Ω'
	case 'ά':
		return 'α'
	case 'έ':
		return 'ε'
	case 'ή':
		return 'η'
	case 'ί', 'ϊ':
		return 'ι'
	case 'ό':
		return 'ο'
	case 'ϋ', 'ύ':
		return 'υ'
	case 'ώ':
		return 'ω'
	case 'ΐ':
		return 'ϊ'
	case 'ΰ':
		return 'ϋ'
	}
	return 0
}

// Both sides are Cyrillic here, though some look like Latin letters.
func cyrillic(r rune) rune {
	switch r {
	case 'Ї':
		return 'І'
	case 'Ѓ':
		return 'Г'
	case 'Ё':
		return 'Е'
	case 'Й':
		return 'И'
	case 'Ќ':
		return 'К'
	case 'Ў':
		return 'У'
	case 'ѓ':
		return 'г'
	case 'ё':
		return 'е'
	case 'й':
		return 'и'
	case 'ќ':
		return 'к'
	case 'ў':
		return 'у'
	case 'ї':
		return 'і'
	}
	return 0
}
