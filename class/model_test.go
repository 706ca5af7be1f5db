package class_test

import (
	"strconv"
	"strings"

	"shuttle/api"
)

// The model is the chapter's lists and tables, line by line as they stand there, and shares nothing with the package.

const (
	theControls = "0000-001F 007F-009F"
	theSigns    = "00AD 061C 200B-200F 202A-202E 2060-2069 FEFF"
	theDigits   = "0030-0039 0660-0669 06F0-06F9 FF10-FF19"
	theMarks    = "0300-036F 0483-0489 0591-05BD 05BF 05C1-05C2 05C4-05C5 05C7 0610-061A 064B-065F 0670 06D6-06DC 06DF-06E4 " +
		"06E7-06E8 06EA-06ED 0E31 0E34-0E3A 0E47-0E4E 1AB0-1AFF 1DC0-1DFF 20D0-20FF 302A-302D 3099-309A FE00-FE0F " +
		"FE20-FE2F"
)

// line is a line of a table: a class, and the characters that have it; of those that an earlier line has, none.
type line struct {
	class      int
	characters string
}

func kindsTable() []line {
	return []line{
		{api.KControl, theControls},
		{api.KFormat, theSigns},
		{api.KMark, theMarks},
		{api.KDigit, theDigits},
		{api.KSpace, "0020 00A0 1680 2000-200A 2028-2029 202F 205F 3000"},
		{api.KSymbol, "0024 002B 003C-003E 005E 0060 007C 007E 00A2-00A6 00A8-00A9 00AC 00AE-00B1 00B4 00B8 00D7 00F7 20A0-20CF 2100-25CB " +
			"25CD-2BFF FFFC-FFFD 1F000-1FAFF"},
		{api.KLetter, "0041-005A 0061-007A 00AA 00B5 00BA 00C0-02FF 0370-0373 0376-037D 037F 0386 0388-0481 048A-0556 0561-0587 05D0-05F2 " +
			"0620-064A 066E-06D3 06D5-06FC 0E01-0E46 10A0-11FF 1E00-1FFF 2C00-2DDF 3005-3007 3041-30FF 3105-318E 3400-4DBF 4E00-9FFF " +
			"AC00-D7A3 F900-FAFF FB1D-FDFB FE70-FEFC FF21-FF3A FF41-FF5A FF66-FFDC 20000-3FFFD"},
		{api.KPunct, "0021-0040 005B-0060 007B-007E 00A1-00BF 037E 0387 0589-058A 05BE-05C6 05F3-05F4 060C-060D 061B-061F 066A-066D 06D4 " +
			"2010-205E 25CC 3001-3003 3008-301F FF01-FF20 FF3B-FF40 FF5B-FF65"},
		{api.KNone, "0-10FFFF"},
	}
}

func dirsTable() []line {
	return []line{
		{api.DirNSM, theMarks},
		{api.DirB, "000A 000D 001C-001E 0085 2029"},
		{api.DirS, "0009 000B 001F"},
		{api.DirWS, "000C 0020 1680 2000-200A 2028 205F 3000"},
		{api.DirBN, "0000-0008 000E-001B 007F-009F 00AD 200B-200D 2060-2065 FEFF"},
		{api.DirL, "200E"},
		{api.DirR, "200F"},
		{api.DirAL, "061C"},
		{api.DirLRE, "202A"},
		{api.DirRLE, "202B"},
		{api.DirPDF, "202C"},
		{api.DirLRO, "202D"},
		{api.DirRLO, "202E"},
		{api.DirLRI, "2066"},
		{api.DirRLI, "2067"},
		{api.DirFSI, "2068"},
		{api.DirPDI, "2069"},
		{api.DirEN, "0030-0039 00B2-00B3 00B9 06F0-06F9 2070-2079 2080-2089 FF10-FF19"},
		{api.DirAN, "0600-0605 0660-0669 066B-066C 06DD"},
		{api.DirES, "002B 002D 2212 FF0B FF0D"},
		{api.DirET, "0023-0025 00A2-00A5 00B0-00B1 066A 2030-2034 20A0-20CF FF03-FF05"},
		{api.DirCS, "002C 002E-002F 003A 00A0 060C 202F FF0C FF0E-FF0F FF1A"},
		{api.DirAL, "0608-07BF FB50-FDFF FE70-FEFE"},
		{api.DirR, "0590-05FF 07C0-085F FB1D-FB4F 10800-10FFF"},
		{api.DirON, "0021-002F 003A-0040 005B-0060 007B-007E 00A1-00BF 00D7 00F7 0606-0607 2010-205E 2190-249B 2500-2BFF 3001-3004 3008-3020 " +
			"3030 FF01-FF20 FF3B-FF40 FF5B-FF65 FFFC-FFFD 1F300-1FAFF"},
		{api.DirL, "0-10FFFF"},
	}
}

func widthsTable() []line {
	return []line{
		{0, theControls + " " + theSigns + " " + theMarks + " 1160-11FF"},
		{2, "1100-115F 231A-231B 2329-232A 23E9-23F3 2614-2615 2648-2653 26BD-26BE 2705 274C 2753-2757 2795-2797 2B50 2E80-303E " +
			"3041-4DBF 4E00-A4CF AC00-D7A3 F900-FAFF FE30-FE6F FF01-FF60 FFE0-FFE6 1F300-1F64F 1F680-1F6FF 1F900-1FAFF 20000-3FFFD"},
		{3, "00A1 00A4 00A7-00A8 00AE 00B0-00B4 00B6-00BA 00BC-00BF 00D7 00F7 0391-03A9 03B1-03C9 0410-044F 2010-2016 2018-201D " +
			"2020-2027 2030-203B 2190-2199 2200-22FF 2460-24EA 2500-25CB 25CD-25D1 2605-2606 2660-2667 E000-F8FF"},
		{1, "0-10FFFF"},
	}
}

func marksTable() []line {
	return []line{
		{230, "0300-0314 033D-0344 0346 034A-034C 0350-0352 0357 035B 0363-036F 0483-0487 0591-05AF 05C4 0610-0617 0653-0654 0657-065E " +
			"06D6-06DC 06DF-06E2 06E4 06E7-06E8 06EB-06EC 1AB0-1AFF 1DC0-1DFF 20D0-20DC 20E1 20E5-20FF FE20-FE2F"},
		{220, "0316-0319 031C-0320 0323-0326 0329-0333 0339-033C 0347-0349 034D-034E 0353-0356 0359-035A 05C5 0655-0656 065F 06E3 06EA " +
			"06ED"},
		{232, "0315 031A 0358 302C"},
		{216, "031B"},
		{202, "0321-0322 0327-0328"},
		{1, "0334-0338"},
		{240, "0345"},
		{233, "035C 035F 0362"},
		{234, "035D-035E 0360-0361"},
		{10, "05B0"},
		{11, "05B1"},
		{12, "05B2"},
		{13, "05B3"},
		{14, "05B4"},
		{15, "05B5"},
		{16, "05B6"},
		{17, "05B7"},
		{18, "05B8 05C7"},
		{19, "05B9-05BA"},
		{20, "05BB"},
		{21, "05BC"},
		{22, "05BD"},
		{23, "05BF"},
		{24, "05C1"},
		{25, "05C2"},
		{27, "064B"},
		{28, "064C"},
		{29, "064D"},
		{30, "0618 064E"},
		{31, "0619 064F"},
		{32, "061A 0650"},
		{33, "0651"},
		{34, "0652"},
		{35, "0670"},
		{103, "0E38-0E39"},
		{9, "0E3A"},
		{107, "0E48-0E4B"},
		{218, "302A"},
		{228, "302B"},
		{222, "302D"},
		{8, "3099-309A"},
		{0, "0-10FFFF"},
	}
}

func joinsTable() []line {
	return []line{
		{api.JoinThrough, theMarks},
		{api.JoinRight, "0622-0625 0627 0629 062F-0632 0648-0649"},
		{api.JoinBoth, "0626 0628 062A-062E 0633-063A 0641-0647 064A"},
		{api.JoinCause, "0640 200D"},
		{api.JoinNone, "0-10FFFF"},
	}
}

func breaksTable() []line {
	return []line{
		{api.BreakMust, "000A-000D 0085 2028-2029"},
		{api.BreakZero, "200B"},
		{api.BreakSpace, "0009 0020 1680 2000-2006 2008-200A 205F 3000"},
		{api.BreakGlue, "00A0 2007 202F 2060 FEFF"},
		{api.BreakJoin, "200D"},
		{api.BreakHyphen, "002D 00AD 058A 05BE 2010 2012-2014"},
		{api.BreakMark, theControls + " " + theSigns + " " + theMarks},
		{api.BreakDigit, theDigits},
		{api.BreakInfix, "002C 002E-002F 003A-003B 060C 066B-066C"},
		{api.BreakOpen, "0028 005B 007B 00A1 00AB 00BF 2018 201A 201C 201E 2039 3008 300A 300C 300E 3010 3014 3016 3018 301A FF08 FF3B FF5B FF5F"},
		{api.BreakClose, "0021 0029 003F 005D 007D 00BB 061B 061F 2019 201D 203A 3001-3002 3009 300B 300D 300F 3011 3015 3017 3019 301B FF01 FF09 " +
			"FF0C FF0E FF1A-FF1B FF1F FF3D FF5D FF60"},
		{api.BreakIdeo, "2E80-303F 3041-4DBF 4E00-A4CF AC00-D7A3 F900-FAFF FF02-FF5E 1F300-1FAFF 20000-3FFFD"},
		{api.BreakAlpha, "0-10FFFF"},
	}
}

// The numbers from 0 up to 10FFFF; those from noneFrom up to noneUntil are no characters.
const (
	numbers   = 0x110000
	noneFrom  = 0xD800
	noneUntil = 0xE000
)

// bounds tells the first and the last character of "from-to", or of one number that stands alone.
func bounds(s string) (from, to int) {
	first, last, two := strings.Cut(s, "-")
	if !two {
		last = first
	}
	a, err := strconv.ParseInt(first, 16, 32)
	if err != nil {
		panic(err)
	}
	b, err := strconv.ParseInt(last, 16, 32)
	if err != nil {
		panic(err)
	}
	return int(a), int(b)
}

// spread tells for each number from 0 to 10FFFF the class of the first line that has it.
func spread(table []line) []int {
	classes := make([]int, numbers)
	for i := range classes {
		classes[i] = -1
	}
	for _, l := range table {
		for _, s := range strings.Fields(l.characters) {
			from, to := bounds(s)
			for r := from; r <= to; r++ {
				if classes[r] < 0 {
					classes[r] = l.class
				}
			}
		}
	}
	return classes
}

// isCharacter tells whether r is a character.
func isCharacter(r rune) bool {
	return r >= 0 && r < noneFrom || r >= noneUntil && r < numbers
}

// stretches tells the longest stretches of characters that have that class.
func stretches(classes []int, class int) []api.Span {
	var spans []api.Span
	inside := false
	for i, c := range classes {
		r := rune(i)
		switch {
		case c != class || !isCharacter(r):
			inside = false
		case inside:
			spans[len(spans)-1].To = r
		default:
			inside = true
			spans = append(spans, api.Span{From: r, To: r})
		}
	}
	return spans
}
