package class

import (
	"sort"
	"unicode/utf8"

	"shuttle/api"
)

// Each list below is one of the chapter's tables, parted into stretches from 0 on. Of a character that several lines of the chapter have, the first line's class alone stands here: what is sought by halves must not overlap.

// stretch is characters of one class: those from the first on, up to the next stretch of its list.
type stretch struct {
	first rune
	class uint8
}

// seek tells the class of the character r, and the last one of the stretch that r is in.
func seek(list []stretch, r rune) (class uint8, to rune) {
	next := sort.Search(len(list), func(i int) bool { return list[i].first > r })
	to = utf8.MaxRune
	if next < len(list) {
		to = list[next].first - 1
	}
	return list[next-1].class, to
}

// tableOf tells the function that knows that table; nil: there is no such table.
func tableOf(table int8) func(r rune) (class uint8, to rune) {
	switch table {
	case api.TabKind:
		return kinds
	case api.TabDir:
		return dirs
	case api.TabWide:
		return widths
	case api.TabMark:
		return marks
	case api.TabJoin:
		return joins
	case api.TabBreak:
		return breaks
	}
	return nil
}

// kinds tells the kind of r.
func kinds(r rune) (class uint8, to rune) {
	list := [...]stretch{
		{0x0000, api.KControl}, {0x0020, api.KSpace}, {0x0021, api.KPunct}, {0x0024, api.KSymbol}, {0x0025, api.KPunct},
		{0x002B, api.KSymbol}, {0x002C, api.KPunct}, {0x0030, api.KDigit}, {0x003A, api.KPunct}, {0x003C, api.KSymbol},
		{0x003F, api.KPunct}, {0x0041, api.KLetter}, {0x005B, api.KPunct}, {0x005E, api.KSymbol}, {0x005F, api.KPunct},
		{0x0060, api.KSymbol}, {0x0061, api.KLetter}, {0x007B, api.KPunct}, {0x007C, api.KSymbol}, {0x007D, api.KPunct},
		{0x007E, api.KSymbol}, {0x007F, api.KControl}, {0x00A0, api.KSpace}, {0x00A1, api.KPunct}, {0x00A2, api.KSymbol},
		{0x00A7, api.KPunct}, {0x00A8, api.KSymbol}, {0x00AA, api.KLetter}, {0x00AB, api.KPunct}, {0x00AC, api.KSymbol},
		{0x00AD, api.KFormat}, {0x00AE, api.KSymbol}, {0x00B2, api.KPunct}, {0x00B4, api.KSymbol}, {0x00B5, api.KLetter},
		{0x00B6, api.KPunct}, {0x00B8, api.KSymbol}, {0x00B9, api.KPunct}, {0x00BA, api.KLetter}, {0x00BB, api.KPunct},
		{0x00C0, api.KLetter}, {0x00D7, api.KSymbol}, {0x00D8, api.KLetter}, {0x00F7, api.KSymbol}, {0x00F8, api.KLetter},
		{0x0300, api.KMark}, {0x0370, api.KLetter}, {0x0374, api.KNone}, {0x0376, api.KLetter}, {0x037E, api.KPunct},
		{0x037F, api.KLetter}, {0x0380, api.KNone}, {0x0386, api.KLetter}, {0x0387, api.KPunct}, {0x0388, api.KLetter},
		{0x0482, api.KNone}, {0x0483, api.KMark}, {0x048A, api.KLetter}, {0x0557, api.KNone}, {0x0561, api.KLetter},
		{0x0588, api.KNone}, {0x0589, api.KPunct}, {0x058B, api.KNone}, {0x0591, api.KMark}, {0x05BE, api.KPunct},
		{0x05BF, api.KMark}, {0x05C0, api.KPunct}, {0x05C1, api.KMark}, {0x05C3, api.KPunct}, {0x05C4, api.KMark},
		{0x05C6, api.KPunct}, {0x05C7, api.KMark}, {0x05C8, api.KNone}, {0x05D0, api.KLetter}, {0x05F3, api.KPunct},
		{0x05F5, api.KNone}, {0x060C, api.KPunct}, {0x060E, api.KNone}, {0x0610, api.KMark}, {0x061B, api.KPunct},
		{0x061C, api.KFormat}, {0x061D, api.KPunct}, {0x0620, api.KLetter}, {0x064B, api.KMark}, {0x0660, api.KDigit},
		{0x066A, api.KPunct}, {0x066E, api.KLetter}, {0x0670, api.KMark}, {0x0671, api.KLetter}, {0x06D4, api.KPunct},
		{0x06D5, api.KLetter}, {0x06D6, api.KMark}, {0x06DD, api.KLetter}, {0x06DF, api.KMark}, {0x06E5, api.KLetter},
		{0x06E7, api.KMark}, {0x06E9, api.KLetter}, {0x06EA, api.KMark}, {0x06EE, api.KLetter}, {0x06F0, api.KDigit},
		{0x06FA, api.KLetter}, {0x06FD, api.KNone}, {0x0E01, api.KLetter}, {0x0E31, api.KMark}, {0x0E32, api.KLetter},
		{0x0E34, api.KMark}, {0x0E3B, api.KLetter}, {0x0E47, api.KMark}, {0x0E4F, api.KNone}, {0x10A0, api.KLetter},
		{0x1200, api.KNone}, {0x1680, api.KSpace}, {0x1681, api.KNone}, {0x1AB0, api.KMark}, {0x1B00, api.KNone},
		{0x1DC0, api.KMark}, {0x1E00, api.KLetter}, {0x2000, api.KSpace}, {0x200B, api.KFormat}, {0x2010, api.KPunct},
		{0x2028, api.KSpace}, {0x202A, api.KFormat}, {0x202F, api.KSpace}, {0x2030, api.KPunct}, {0x205F, api.KSpace},
		{0x2060, api.KFormat}, {0x206A, api.KNone}, {0x20A0, api.KSymbol}, {0x20D0, api.KMark}, {0x2100, api.KSymbol},
		{0x25CC, api.KPunct}, {0x25CD, api.KSymbol}, {0x2C00, api.KLetter}, {0x2DE0, api.KNone}, {0x3000, api.KSpace},
		{0x3001, api.KPunct}, {0x3004, api.KNone}, {0x3005, api.KLetter}, {0x3008, api.KPunct}, {0x3020, api.KNone},
		{0x302A, api.KMark}, {0x302E, api.KNone}, {0x3041, api.KLetter}, {0x3099, api.KMark}, {0x309B, api.KLetter},
		{0x3100, api.KNone}, {0x3105, api.KLetter}, {0x318F, api.KNone}, {0x3400, api.KLetter}, {0x4DC0, api.KNone},
		{0x4E00, api.KLetter}, {0xA000, api.KNone}, {0xAC00, api.KLetter}, {0xD7A4, api.KNone}, {0xF900, api.KLetter},
		{0xFB00, api.KNone}, {0xFB1D, api.KLetter}, {0xFDFC, api.KNone}, {0xFE00, api.KMark}, {0xFE10, api.KNone},
		{0xFE20, api.KMark}, {0xFE30, api.KNone}, {0xFE70, api.KLetter}, {0xFEFD, api.KNone}, {0xFEFF, api.KFormat},
		{0xFF00, api.KNone}, {0xFF01, api.KPunct}, {0xFF10, api.KDigit}, {0xFF1A, api.KPunct}, {0xFF21, api.KLetter},
		{0xFF3B, api.KPunct}, {0xFF41, api.KLetter}, {0xFF5B, api.KPunct}, {0xFF66, api.KLetter}, {0xFFDD, api.KNone},
		{0xFFFC, api.KSymbol}, {0xFFFE, api.KNone}, {0x1F000, api.KSymbol}, {0x1FB00, api.KNone}, {0x20000, api.KLetter},
		{0x3FFFE, api.KNone},
	}
	return seek(list[:], r)
}

// dirs tells the class of r for directions.
func dirs(r rune) (class uint8, to rune) {
	list := [...]stretch{
		{0x0000, api.DirBN}, {0x0009, api.DirS}, {0x000A, api.DirB}, {0x000B, api.DirS}, {0x000C, api.DirWS},
		{0x000D, api.DirB}, {0x000E, api.DirBN}, {0x001C, api.DirB}, {0x001F, api.DirS}, {0x0020, api.DirWS},
		{0x0021, api.DirON}, {0x0023, api.DirET}, {0x0026, api.DirON}, {0x002B, api.DirES}, {0x002C, api.DirCS},
		{0x002D, api.DirES}, {0x002E, api.DirCS}, {0x0030, api.DirEN}, {0x003A, api.DirCS}, {0x003B, api.DirON},
		{0x0041, api.DirL}, {0x005B, api.DirON}, {0x0061, api.DirL}, {0x007B, api.DirON}, {0x007F, api.DirBN},
		{0x0085, api.DirB}, {0x0086, api.DirBN}, {0x00A0, api.DirCS}, {0x00A1, api.DirON}, {0x00A2, api.DirET},
		{0x00A6, api.DirON}, {0x00AD, api.DirBN}, {0x00AE, api.DirON}, {0x00B0, api.DirET}, {0x00B2, api.DirEN},
		{0x00B4, api.DirON}, {0x00B9, api.DirEN}, {0x00BA, api.DirON}, {0x00C0, api.DirL}, {0x00D7, api.DirON},
		{0x00D8, api.DirL}, {0x00F7, api.DirON}, {0x00F8, api.DirL}, {0x0300, api.DirNSM}, {0x0370, api.DirL},
		{0x0483, api.DirNSM}, {0x048A, api.DirL}, {0x0590, api.DirR}, {0x0591, api.DirNSM}, {0x05BE, api.DirR},
		{0x05BF, api.DirNSM}, {0x05C0, api.DirR}, {0x05C1, api.DirNSM}, {0x05C3, api.DirR}, {0x05C4, api.DirNSM},
		{0x05C6, api.DirR}, {0x05C7, api.DirNSM}, {0x05C8, api.DirR}, {0x0600, api.DirAN}, {0x0606, api.DirON},
		{0x0608, api.DirAL}, {0x060C, api.DirCS}, {0x060D, api.DirAL}, {0x0610, api.DirNSM}, {0x061B, api.DirAL},
		{0x064B, api.DirNSM}, {0x0660, api.DirAN}, {0x066A, api.DirET}, {0x066B, api.DirAN}, {0x066D, api.DirAL},
		{0x0670, api.DirNSM}, {0x0671, api.DirAL}, {0x06D6, api.DirNSM}, {0x06DD, api.DirAN}, {0x06DE, api.DirAL},
		{0x06DF, api.DirNSM}, {0x06E5, api.DirAL}, {0x06E7, api.DirNSM}, {0x06E9, api.DirAL}, {0x06EA, api.DirNSM},
		{0x06EE, api.DirAL}, {0x06F0, api.DirEN}, {0x06FA, api.DirAL}, {0x07C0, api.DirR}, {0x0860, api.DirL},
		{0x0E31, api.DirNSM}, {0x0E32, api.DirL}, {0x0E34, api.DirNSM}, {0x0E3B, api.DirL}, {0x0E47, api.DirNSM},
		{0x0E4F, api.DirL}, {0x1680, api.DirWS}, {0x1681, api.DirL}, {0x1AB0, api.DirNSM}, {0x1B00, api.DirL},
		{0x1DC0, api.DirNSM}, {0x1E00, api.DirL}, {0x2000, api.DirWS}, {0x200B, api.DirBN}, {0x200E, api.DirL},
		{0x200F, api.DirR}, {0x2010, api.DirON}, {0x2028, api.DirWS}, {0x2029, api.DirB}, {0x202A, api.DirLRE},
		{0x202B, api.DirRLE}, {0x202C, api.DirPDF}, {0x202D, api.DirLRO}, {0x202E, api.DirRLO}, {0x202F, api.DirCS},
		{0x2030, api.DirET}, {0x2035, api.DirON}, {0x205F, api.DirWS}, {0x2060, api.DirBN}, {0x2066, api.DirLRI},
		{0x2067, api.DirRLI}, {0x2068, api.DirFSI}, {0x2069, api.DirPDI}, {0x206A, api.DirL}, {0x2070, api.DirEN},
		{0x207A, api.DirL}, {0x2080, api.DirEN}, {0x208A, api.DirL}, {0x20A0, api.DirET}, {0x20D0, api.DirNSM},
		{0x2100, api.DirL}, {0x2190, api.DirON}, {0x2212, api.DirES}, {0x2213, api.DirON}, {0x249C, api.DirL},
		{0x2500, api.DirON}, {0x2C00, api.DirL}, {0x3000, api.DirWS}, {0x3001, api.DirON}, {0x3005, api.DirL},
		{0x3008, api.DirON}, {0x3021, api.DirL}, {0x302A, api.DirNSM}, {0x302E, api.DirL}, {0x3030, api.DirON},
		{0x3031, api.DirL}, {0x3099, api.DirNSM}, {0x309B, api.DirL}, {0xFB1D, api.DirR}, {0xFB50, api.DirAL},
		{0xFE00, api.DirNSM}, {0xFE10, api.DirL}, {0xFE20, api.DirNSM}, {0xFE30, api.DirL}, {0xFE70, api.DirAL},
		{0xFEFF, api.DirBN}, {0xFF00, api.DirL}, {0xFF01, api.DirON}, {0xFF03, api.DirET}, {0xFF06, api.DirON},
		{0xFF0B, api.DirES}, {0xFF0C, api.DirCS}, {0xFF0D, api.DirES}, {0xFF0E, api.DirCS}, {0xFF10, api.DirEN},
		{0xFF1A, api.DirCS}, {0xFF1B, api.DirON}, {0xFF21, api.DirL}, {0xFF3B, api.DirON}, {0xFF41, api.DirL},
		{0xFF5B, api.DirON}, {0xFF66, api.DirL}, {0xFFFC, api.DirON}, {0xFFFE, api.DirL}, {0x10800, api.DirR},
		{0x11000, api.DirL}, {0x1F300, api.DirON}, {0x1FB00, api.DirL},
	}
	return seek(list[:], r)
}

// widths tells how many columns r takes; unsure: no certain number.
func widths(r rune) (class uint8, to rune) {
	list := [...]stretch{
		{0x0000, 0}, {0x0020, 1}, {0x007F, 0}, {0x00A0, 1}, {0x00A1, 3}, {0x00A2, 1}, {0x00A4, 3}, {0x00A5, 1}, {0x00A7, 3},
		{0x00A9, 1}, {0x00AD, 0}, {0x00AE, 3}, {0x00AF, 1}, {0x00B0, 3}, {0x00B5, 1}, {0x00B6, 3}, {0x00BB, 1}, {0x00BC, 3},
		{0x00C0, 1}, {0x00D7, 3}, {0x00D8, 1}, {0x00F7, 3}, {0x00F8, 1}, {0x0300, 0}, {0x0370, 1}, {0x0391, 3}, {0x03AA, 1},
		{0x03B1, 3}, {0x03CA, 1}, {0x0410, 3}, {0x0450, 1}, {0x0483, 0}, {0x048A, 1}, {0x0591, 0}, {0x05BE, 1}, {0x05BF, 0},
		{0x05C0, 1}, {0x05C1, 0}, {0x05C3, 1}, {0x05C4, 0}, {0x05C6, 1}, {0x05C7, 0}, {0x05C8, 1}, {0x0610, 0}, {0x061B, 1},
		{0x061C, 0}, {0x061D, 1}, {0x064B, 0}, {0x0660, 1}, {0x0670, 0}, {0x0671, 1}, {0x06D6, 0}, {0x06DD, 1}, {0x06DF, 0},
		{0x06E5, 1}, {0x06E7, 0}, {0x06E9, 1}, {0x06EA, 0}, {0x06EE, 1}, {0x0E31, 0}, {0x0E32, 1}, {0x0E34, 0}, {0x0E3B, 1},
		{0x0E47, 0}, {0x0E4F, 1}, {0x1100, 2}, {0x1160, 0}, {0x1200, 1}, {0x1AB0, 0}, {0x1B00, 1}, {0x1DC0, 0}, {0x1E00, 1},
		{0x200B, 0}, {0x2010, 3}, {0x2017, 1}, {0x2018, 3}, {0x201E, 1}, {0x2020, 3}, {0x2028, 1}, {0x202A, 0}, {0x202F, 1},
		{0x2030, 3}, {0x203C, 1}, {0x2060, 0}, {0x206A, 1}, {0x20D0, 0}, {0x2100, 1}, {0x2190, 3}, {0x219A, 1}, {0x2200, 3},
		{0x2300, 1}, {0x231A, 2}, {0x231C, 1}, {0x2329, 2}, {0x232B, 1}, {0x23E9, 2}, {0x23F4, 1}, {0x2460, 3}, {0x24EB, 1},
		{0x2500, 3}, {0x25CC, 1}, {0x25CD, 3}, {0x25D2, 1}, {0x2605, 3}, {0x2607, 1}, {0x2614, 2}, {0x2616, 1}, {0x2648, 2},
		{0x2654, 1}, {0x2660, 3}, {0x2668, 1}, {0x26BD, 2}, {0x26BF, 1}, {0x2705, 2}, {0x2706, 1}, {0x274C, 2}, {0x274D, 1},
		{0x2753, 2}, {0x2758, 1}, {0x2795, 2}, {0x2798, 1}, {0x2B50, 2}, {0x2B51, 1}, {0x2E80, 2}, {0x302A, 0}, {0x302E, 2},
		{0x303F, 1}, {0x3041, 2}, {0x3099, 0}, {0x309B, 2}, {0x4DC0, 1}, {0x4E00, 2}, {0xA4D0, 1}, {0xAC00, 2}, {0xD7A4, 1},
		{0xE000, 3}, {0xF900, 2}, {0xFB00, 1}, {0xFE00, 0}, {0xFE10, 1}, {0xFE20, 0}, {0xFE30, 2}, {0xFE70, 1}, {0xFEFF, 0},
		{0xFF00, 1}, {0xFF01, 2}, {0xFF61, 1}, {0xFFE0, 2}, {0xFFE7, 1}, {0x1F300, 2}, {0x1F650, 1}, {0x1F680, 2},
		{0x1F700, 1}, {0x1F900, 2}, {0x1FB00, 1}, {0x20000, 2}, {0x3FFFE, 1},
	}
	return seek(list[:], r)
}

// marks tells the class of r as a mark; 0: none.
func marks(r rune) (class uint8, to rune) {
	list := [...]stretch{
		{0x0000, 0}, {0x0300, 230}, {0x0315, 232}, {0x0316, 220}, {0x031A, 232}, {0x031B, 216}, {0x031C, 220}, {0x0321, 202},
		{0x0323, 220}, {0x0327, 202}, {0x0329, 220}, {0x0334, 1}, {0x0339, 220}, {0x033D, 230}, {0x0345, 240}, {0x0346, 230},
		{0x0347, 220}, {0x034A, 230}, {0x034D, 220}, {0x034F, 0}, {0x0350, 230}, {0x0353, 220}, {0x0357, 230}, {0x0358, 232},
		{0x0359, 220}, {0x035B, 230}, {0x035C, 233}, {0x035D, 234}, {0x035F, 233}, {0x0360, 234}, {0x0362, 233},
		{0x0363, 230}, {0x0370, 0}, {0x0483, 230}, {0x0488, 0}, {0x0591, 230}, {0x05B0, 10}, {0x05B1, 11}, {0x05B2, 12},
		{0x05B3, 13}, {0x05B4, 14}, {0x05B5, 15}, {0x05B6, 16}, {0x05B7, 17}, {0x05B8, 18}, {0x05B9, 19}, {0x05BB, 20},
		{0x05BC, 21}, {0x05BD, 22}, {0x05BE, 0}, {0x05BF, 23}, {0x05C0, 0}, {0x05C1, 24}, {0x05C2, 25}, {0x05C3, 0},
		{0x05C4, 230}, {0x05C5, 220}, {0x05C6, 0}, {0x05C7, 18}, {0x05C8, 0}, {0x0610, 230}, {0x0618, 30}, {0x0619, 31},
		{0x061A, 32}, {0x061B, 0}, {0x064B, 27}, {0x064C, 28}, {0x064D, 29}, {0x064E, 30}, {0x064F, 31}, {0x0650, 32},
		{0x0651, 33}, {0x0652, 34}, {0x0653, 230}, {0x0655, 220}, {0x0657, 230}, {0x065F, 220}, {0x0660, 0}, {0x0670, 35},
		{0x0671, 0}, {0x06D6, 230}, {0x06DD, 0}, {0x06DF, 230}, {0x06E3, 220}, {0x06E4, 230}, {0x06E5, 0}, {0x06E7, 230},
		{0x06E9, 0}, {0x06EA, 220}, {0x06EB, 230}, {0x06ED, 220}, {0x06EE, 0}, {0x0E38, 103}, {0x0E3A, 9}, {0x0E3B, 0},
		{0x0E48, 107}, {0x0E4C, 0}, {0x1AB0, 230}, {0x1B00, 0}, {0x1DC0, 230}, {0x1E00, 0}, {0x20D0, 230}, {0x20DD, 0},
		{0x20E1, 230}, {0x20E2, 0}, {0x20E5, 230}, {0x2100, 0}, {0x302A, 218}, {0x302B, 228}, {0x302C, 232}, {0x302D, 222},
		{0x302E, 0}, {0x3099, 8}, {0x309B, 0}, {0xFE20, 230}, {0xFE30, 0},
	}
	return seek(list[:], r)
}

// joins tells how r joins.
func joins(r rune) (class uint8, to rune) {
	list := [...]stretch{
		{0x0000, api.JoinNone}, {0x0300, api.JoinThrough}, {0x0370, api.JoinNone}, {0x0483, api.JoinThrough},
		{0x048A, api.JoinNone}, {0x0591, api.JoinThrough}, {0x05BE, api.JoinNone}, {0x05BF, api.JoinThrough},
		{0x05C0, api.JoinNone}, {0x05C1, api.JoinThrough}, {0x05C3, api.JoinNone}, {0x05C4, api.JoinThrough},
		{0x05C6, api.JoinNone}, {0x05C7, api.JoinThrough}, {0x05C8, api.JoinNone}, {0x0610, api.JoinThrough},
		{0x061B, api.JoinNone}, {0x0622, api.JoinRight}, {0x0626, api.JoinBoth}, {0x0627, api.JoinRight},
		{0x0628, api.JoinBoth}, {0x0629, api.JoinRight}, {0x062A, api.JoinBoth}, {0x062F, api.JoinRight},
		{0x0633, api.JoinBoth}, {0x063B, api.JoinNone}, {0x0640, api.JoinCause}, {0x0641, api.JoinBoth},
		{0x0648, api.JoinRight}, {0x064A, api.JoinBoth}, {0x064B, api.JoinThrough}, {0x0660, api.JoinNone},
		{0x0670, api.JoinThrough}, {0x0671, api.JoinNone}, {0x06D6, api.JoinThrough}, {0x06DD, api.JoinNone},
		{0x06DF, api.JoinThrough}, {0x06E5, api.JoinNone}, {0x06E7, api.JoinThrough}, {0x06E9, api.JoinNone},
		{0x06EA, api.JoinThrough}, {0x06EE, api.JoinNone}, {0x0E31, api.JoinThrough}, {0x0E32, api.JoinNone},
		{0x0E34, api.JoinThrough}, {0x0E3B, api.JoinNone}, {0x0E47, api.JoinThrough}, {0x0E4F, api.JoinNone},
		{0x1AB0, api.JoinThrough}, {0x1B00, api.JoinNone}, {0x1DC0, api.JoinThrough}, {0x1E00, api.JoinNone},
		{0x200D, api.JoinCause}, {0x200E, api.JoinNone}, {0x20D0, api.JoinThrough}, {0x2100, api.JoinNone},
		{0x302A, api.JoinThrough}, {0x302E, api.JoinNone}, {0x3099, api.JoinThrough}, {0x309B, api.JoinNone},
		{0xFE00, api.JoinThrough}, {0xFE10, api.JoinNone}, {0xFE20, api.JoinThrough}, {0xFE30, api.JoinNone},
	}
	return seek(list[:], r)
}

// breaks tells how lines break at r.
func breaks(r rune) (class uint8, to rune) {
	list := [...]stretch{
		{0x0000, api.BreakMark}, {0x0009, api.BreakSpace}, {0x000A, api.BreakMust}, {0x000E, api.BreakMark},
		{0x0020, api.BreakSpace}, {0x0021, api.BreakClose}, {0x0022, api.BreakAlpha}, {0x0028, api.BreakOpen},
		{0x0029, api.BreakClose}, {0x002A, api.BreakAlpha}, {0x002C, api.BreakInfix}, {0x002D, api.BreakHyphen},
		{0x002E, api.BreakInfix}, {0x0030, api.BreakDigit}, {0x003A, api.BreakInfix}, {0x003C, api.BreakAlpha},
		{0x003F, api.BreakClose}, {0x0040, api.BreakAlpha}, {0x005B, api.BreakOpen}, {0x005C, api.BreakAlpha},
		{0x005D, api.BreakClose}, {0x005E, api.BreakAlpha}, {0x007B, api.BreakOpen}, {0x007C, api.BreakAlpha},
		{0x007D, api.BreakClose}, {0x007E, api.BreakAlpha}, {0x007F, api.BreakMark}, {0x0085, api.BreakMust},
		{0x0086, api.BreakMark}, {0x00A0, api.BreakGlue}, {0x00A1, api.BreakOpen}, {0x00A2, api.BreakAlpha},
		{0x00AB, api.BreakOpen}, {0x00AC, api.BreakAlpha}, {0x00AD, api.BreakHyphen}, {0x00AE, api.BreakAlpha},
		{0x00BB, api.BreakClose}, {0x00BC, api.BreakAlpha}, {0x00BF, api.BreakOpen}, {0x00C0, api.BreakAlpha},
		{0x0300, api.BreakMark}, {0x0370, api.BreakAlpha}, {0x0483, api.BreakMark}, {0x048A, api.BreakAlpha},
		{0x058A, api.BreakHyphen}, {0x058B, api.BreakAlpha}, {0x0591, api.BreakMark}, {0x05BE, api.BreakHyphen},
		{0x05BF, api.BreakMark}, {0x05C0, api.BreakAlpha}, {0x05C1, api.BreakMark}, {0x05C3, api.BreakAlpha},
		{0x05C4, api.BreakMark}, {0x05C6, api.BreakAlpha}, {0x05C7, api.BreakMark}, {0x05C8, api.BreakAlpha},
		{0x060C, api.BreakInfix}, {0x060D, api.BreakAlpha}, {0x0610, api.BreakMark}, {0x061B, api.BreakClose},
		{0x061C, api.BreakMark}, {0x061D, api.BreakAlpha}, {0x061F, api.BreakClose}, {0x0620, api.BreakAlpha},
		{0x064B, api.BreakMark}, {0x0660, api.BreakDigit}, {0x066A, api.BreakAlpha}, {0x066B, api.BreakInfix},
		{0x066D, api.BreakAlpha}, {0x0670, api.BreakMark}, {0x0671, api.BreakAlpha}, {0x06D6, api.BreakMark},
		{0x06DD, api.BreakAlpha}, {0x06DF, api.BreakMark}, {0x06E5, api.BreakAlpha}, {0x06E7, api.BreakMark},
		{0x06E9, api.BreakAlpha}, {0x06EA, api.BreakMark}, {0x06EE, api.BreakAlpha}, {0x06F0, api.BreakDigit},
		{0x06FA, api.BreakAlpha}, {0x0E31, api.BreakMark}, {0x0E32, api.BreakAlpha}, {0x0E34, api.BreakMark},
		{0x0E3B, api.BreakAlpha}, {0x0E47, api.BreakMark}, {0x0E4F, api.BreakAlpha}, {0x1680, api.BreakSpace},
		{0x1681, api.BreakAlpha}, {0x1AB0, api.BreakMark}, {0x1B00, api.BreakAlpha}, {0x1DC0, api.BreakMark},
		{0x1E00, api.BreakAlpha}, {0x2000, api.BreakSpace}, {0x2007, api.BreakGlue}, {0x2008, api.BreakSpace},
		{0x200B, api.BreakZero}, {0x200C, api.BreakMark}, {0x200D, api.BreakJoin}, {0x200E, api.BreakMark},
		{0x2010, api.BreakHyphen}, {0x2011, api.BreakAlpha}, {0x2012, api.BreakHyphen}, {0x2015, api.BreakAlpha},
		{0x2018, api.BreakOpen}, {0x2019, api.BreakClose}, {0x201A, api.BreakOpen}, {0x201B, api.BreakAlpha},
		{0x201C, api.BreakOpen}, {0x201D, api.BreakClose}, {0x201E, api.BreakOpen}, {0x201F, api.BreakAlpha},
		{0x2028, api.BreakMust}, {0x202A, api.BreakMark}, {0x202F, api.BreakGlue}, {0x2030, api.BreakAlpha},
		{0x2039, api.BreakOpen}, {0x203A, api.BreakClose}, {0x203B, api.BreakAlpha}, {0x205F, api.BreakSpace},
		{0x2060, api.BreakGlue}, {0x2061, api.BreakMark}, {0x206A, api.BreakAlpha}, {0x20D0, api.BreakMark},
		{0x2100, api.BreakAlpha}, {0x2E80, api.BreakIdeo}, {0x3000, api.BreakSpace}, {0x3001, api.BreakClose},
		{0x3003, api.BreakIdeo}, {0x3008, api.BreakOpen}, {0x3009, api.BreakClose}, {0x300A, api.BreakOpen},
		{0x300B, api.BreakClose}, {0x300C, api.BreakOpen}, {0x300D, api.BreakClose}, {0x300E, api.BreakOpen},
		{0x300F, api.BreakClose}, {0x3010, api.BreakOpen}, {0x3011, api.BreakClose}, {0x3012, api.BreakIdeo},
		{0x3014, api.BreakOpen}, {0x3015, api.BreakClose}, {0x3016, api.BreakOpen}, {0x3017, api.BreakClose},
		{0x3018, api.BreakOpen}, {0x3019, api.BreakClose}, {0x301A, api.BreakOpen}, {0x301B, api.BreakClose},
		{0x301C, api.BreakIdeo}, {0x302A, api.BreakMark}, {0x302E, api.BreakIdeo}, {0x3040, api.BreakAlpha},
		{0x3041, api.BreakIdeo}, {0x3099, api.BreakMark}, {0x309B, api.BreakIdeo}, {0x4DC0, api.BreakAlpha},
		{0x4E00, api.BreakIdeo}, {0xA4D0, api.BreakAlpha}, {0xAC00, api.BreakIdeo}, {0xD7A4, api.BreakAlpha},
		{0xF900, api.BreakIdeo}, {0xFB00, api.BreakAlpha}, {0xFE00, api.BreakMark}, {0xFE10, api.BreakAlpha},
		{0xFE20, api.BreakMark}, {0xFE30, api.BreakAlpha}, {0xFEFF, api.BreakGlue}, {0xFF00, api.BreakAlpha},
		{0xFF01, api.BreakClose}, {0xFF02, api.BreakIdeo}, {0xFF08, api.BreakOpen}, {0xFF09, api.BreakClose},
		{0xFF0A, api.BreakIdeo}, {0xFF0C, api.BreakClose}, {0xFF0D, api.BreakIdeo}, {0xFF0E, api.BreakClose},
		{0xFF0F, api.BreakIdeo}, {0xFF10, api.BreakDigit}, {0xFF1A, api.BreakClose}, {0xFF1C, api.BreakIdeo},
		{0xFF1F, api.BreakClose}, {0xFF20, api.BreakIdeo}, {0xFF3B, api.BreakOpen}, {0xFF3C, api.BreakIdeo},
		{0xFF3D, api.BreakClose}, {0xFF3E, api.BreakIdeo}, {0xFF5B, api.BreakOpen}, {0xFF5C, api.BreakIdeo},
		{0xFF5D, api.BreakClose}, {0xFF5E, api.BreakIdeo}, {0xFF5F, api.BreakOpen}, {0xFF60, api.BreakClose},
		{0xFF61, api.BreakAlpha}, {0x1F300, api.BreakIdeo}, {0x1FB00, api.BreakAlpha}, {0x20000, api.BreakIdeo},
		{0x3FFFE, api.BreakAlpha},
	}
	return seek(list[:], r)
}

// couple is two characters that are each other's mirror; bracket: left opens, right closes.
type couple struct {
	left, right rune
	bracket     bool
}

// mirrors tells the couple in which r is, if it is in any: no two couples lie across each other, so that only the last one that begins at or ahead of r can have it.
func mirrors(r rune) couple {
	list := [...]couple{
		{0x28, 0x29, true}, {0x3C, 0x3E, false}, {0x5B, 0x5D, true}, {0x7B, 0x7D, true}, {0xAB, 0xBB, false},
		{0x2039, 0x203A, false}, {0x2264, 0x2265, false}, {0x3008, 0x3009, true}, {0x300A, 0x300B, true},
		{0x300C, 0x300D, true}, {0x300E, 0x300F, true}, {0x3010, 0x3011, true}, {0x3014, 0x3015, true},
		{0x3016, 0x3017, true}, {0x3018, 0x3019, true}, {0x301A, 0x301B, true}, {0xFF08, 0xFF09, true},
		{0xFF1C, 0xFF1E, false}, {0xFF3B, 0xFF3D, true}, {0xFF5B, 0xFF5D, true},
	}
	next := sort.Search(len(list), func(i int) bool { return list[i].left > r })
	if next == 0 {
		return couple{}
	}
	return list[next-1]
}
