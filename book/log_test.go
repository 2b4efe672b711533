package book_test

import (
	"fmt"
	"slices"
	"strings"
	"testing"

	"canebrake/api"
	"canebrake/book"
)

// wantText writes a log and reads it again.
func wantText(t *testing.T, log []api.Entry, want string) {
	t.Helper()
	if text, e := book.WriteLog(log); text != want || e != api.OK {
		t.Error(log, "is", text, e, "not", want)
	}
	if l, line, e := book.ReadLog(want); shown(l) != shown(log) || line != 0 || e != api.OK {
		t.Error(want, "is", l, line, e, "not", log)
	}
}

// wantNoText writes logs that are not written.
func wantNoText(t *testing.T, want api.Errno, log ...api.Entry) {
	t.Helper()
	if text, e := book.WriteLog(log); text != "" || e != want {
		t.Error(log, "is", text, e, "not", want)
	}
}

// wantLine reads texts with a line that is wrong.
func wantLine(t *testing.T, line int, want api.Errno, texts ...string) {
	t.Helper()
	for _, text := range texts {
		if l, n, e := book.ReadLog(text); len(l) > 0 || n != line || e != want {
			t.Errorf("%q is %v %v %v, not %v %v", text, l, n, e, line, want)
		}
	}
}

// ended is lines with the last one that belongs to them.
func ended(lines string) string {
	return fmt.Sprintf("%sEND %d %d\n", lines, strings.Count(lines, "\n"), modelCheck(lines))
}

// TestText has an empty log, and numbers of all kinds (P11.4, P11.5).
func TestText(t *testing.T) {
	wantText(t, nil, "END 0 0\n")
	wantText(t, []api.Entry{}, "END 0 0\n")
	// The checks are told by hand, or are those of the tests that are given.
	wantText(t, entries("TAKE -3"), "TAKE -3\nEND 1 6408\n")
	wantText(t, entries("USE", "TAKE 3"), "USE\nTAKE 3\nEND 2 3644\n")
	wantText(t, []api.Entry{{Word: "USE", Args: []int{}}}, "USE\nEND 1 3796\n")
	for _, line := range []string{
		"TAKE 0", "TAKE 9", "TAKE 10", "TAKE 1000000000000", "TAKE -1", "TAKE -1000000000000", "TAKE 999999999999", "TAKE -999999999999", "KNOT -10 10", "KNOT 0 0", "SHUT",
		"SEASON 3 4 5", "SOAK 1 2 3 4 5 6 7", "SOAK 1 2 3 4 5 6 7 8 9 10", "POLE 1 2 3 4 5 6 7 8 9 10 11 12", "TEST -1 -2 -3 -4 -5", "PROP 0 0 0 -1 0 300",
	} {
		wantText(t, entries(line), ended(line+"\n"))
		wantText(t, entries("USE", line, line, "SHUT"), ended("USE\n"+line+"\n"+line+"\nSHUT\n"))
	}
}

// TestLogsThatAreNotWritten has words that are none, too many numbers or too few, and numbers that are too great (P11.4, R5).
func TestLogsThatAreNotWritten(t *testing.T) {
	for word, need := range needs() {
		for number := range 14 {
			x := api.Entry{Word: word, Args: make([]int, number)}
			if number < need[0] || number > need[1] {
				wantNoText(t, api.ErrArg, x)
				wantNoText(t, api.ErrArg, entry("USE"), x)
				continue
			}
			wantText(t, []api.Entry{x}, ended(word+strings.Repeat(" 0", number)+"\n"))
			for i := range number {
				for _, n := range odd() {
					some := api.Entry{Word: word, Args: make([]int, number)}
					some.Args[i] = n
					text, e := book.WriteLog([]api.Entry{some, entry("SHUT")})
					if sayable := n >= -1000000000000 && n <= 1000000000000; sayable != (e == api.OK) || sayable != (text != "") || !sayable && e != api.ErrArg {
						t.Error(some, text, e)
					}
				}
			}
		}
	}
	for _, word := range []string{"", " ", "END", "use", "USE ", " USE", "USE\n", "USE\nUSE", "U", "\x00"} {
		wantNoText(t, api.ErrArg, api.Entry{Word: word})
		wantNoText(t, api.ErrArg, api.Entry{Word: word, Args: []int{0, 0}})
		wantNoText(t, api.ErrArg, entry("KNOT 1 2"), api.Entry{Word: word, Args: []int{1}}, entry("SHUT"))
	}
}

// TestLongLogs has as many entries, and as many bytes, as there may be, and one more of each (P11.4, P11.5).
func TestLongLogs(t *testing.T) {
	for _, number := range []int{149, 150} {
		wantText(t, slices.Repeat(entries("USE"), number), ended(strings.Repeat("USE\n", number)))
	}
	wantNoText(t, api.ErrArg, slices.Repeat(entries("USE"), 151)...)
	wantNoText(t, api.ErrArg, slices.Repeat(entries("USE"), 1<<16)...)
	for _, lines := range []string{"USE\n", "USE\nUSE\n", strings.Repeat("USE\n", 50)} {
		text := strings.Repeat("USE\n", 150) + lines
		wantLine(t, 151, api.ErrRow, text, ended(text), text+"END 0 0\n", text+"x")
	}
	wantLine(t, 151, api.ErrRow, strings.Repeat("USE\n", 150), strings.Repeat("USE\n", 150)+"END 150 0", strings.Repeat("USE\n", 150)+"USE", strings.Repeat("USE\n", 150)+"END 150 0\nUSE\n")
	wantLine(t, 151, api.ErrEnd, strings.Repeat("USE\n", 150)+"END 151 0\n", strings.Repeat("USE\n", 150)+"END 150 0\n")
	wantLine(t, 150, api.ErrRow, strings.Repeat("USE\n", 149)+"use\n", strings.Repeat("USE\n", 149)+"END 149 0\nUSE\n")
	exact, beyond := sized(t, 9000), sized(t, 9001)
	wantText(t, exact, ended(linesOf(exact)))
	wantNoText(t, api.ErrFull, beyond...)
	wantLine(t, 0, api.ErrFull, ended(linesOf(beyond)))
	// A log that is too long has a wrong entry, or too many of them: this is looked at first.
	long := entry("POLE" + strings.Repeat(" -1000000000000", 12))
	wantNoText(t, api.ErrFull, slices.Repeat([]api.Entry{long}, 150)...)
	wantNoText(t, api.ErrArg, append(slices.Repeat([]api.Entry{long}, 149), entry("END 0 0"))...)
	wantNoText(t, api.ErrArg, slices.Repeat([]api.Entry{long}, 151)...)
	// Texts that are too long, or just not.
	wantLine(t, 0, api.ErrFull, strings.Repeat("x", 9001), strings.Repeat("\n", 9001), strings.Repeat("USE\n", 2251), strings.Repeat(" ", 1<<20), "END 0 0\n"+strings.Repeat("x", 8993))
	wantLine(t, 1, api.ErrRow, strings.Repeat("x", 9000), strings.Repeat("\n", 9000), strings.Repeat(" ", 9000), "END 0 0\n"+strings.Repeat("x", 8992), "TAKE "+strings.Repeat("9", 8995), "TAKE "+strings.Repeat("9", 8994)+"\n")
	wantLine(t, 1, api.ErrRow, "USE"+strings.Repeat(" 0", 4498)+"\n", "END"+strings.Repeat(" 0", 4498)+"\n")
}

// linesOf are the lines of a log, without the last one.
func linesOf(log []api.Entry) string {
	var text strings.Builder
	for _, x := range log {
		text.WriteString(x.Word)
		for _, n := range x.Args {
			fmt.Fprint(&text, " ", n)
		}
		text.WriteString("\n")
	}
	return text.String()
}

// sized is a log with a text of so many bytes, about 9,000: of 48 lines with 185 bytes, five with 18, and two that differ.
func sized(t *testing.T, bytes int) []api.Entry {
	t.Helper()
	long := entry("POLE" + strings.Repeat(" -1000000000000", 12))
	log := append(slices.Repeat([]api.Entry{long}, 48), slices.Repeat(entries("TAKE 100000000000"), 5)...)
	for first := range 9 {
		for zeros := range 12 {
			last := entry(fmt.Sprint("TAKE -", first+1) + strings.Repeat("0", zeros))
			if l := append(slices.Clip(log), last); len(ended(linesOf(l))) == bytes {
				return l
			}
		}
	}
	t.Fatal("no such log was found")
	return nil
}

// TestWrongLines has lines that are not as they are written, and looks which one is told (P11.5).
func TestWrongLines(t *testing.T) {
	wrong := []string{
		"", " ", "use", "USE ", " USE", "USE 0", "TAKE", "TAKE ", "TAKE 1 ", "TAKE  1", " TAKE 1", "TAKE 1  ", "TAKE 1 2", "TAKE\t1", "TAKE 1\r", "TAKE 01", "TAKE 00", "TAKE -0", "TAKE -01", "TAKE +1", "TAKE +0", "TAKE --1", "TAKE -", "TAKE 1-", "TAKE 1_0", "TAKE 0x1", "TAKE 1.0", "TAKE 1e1", "TAKE ٣", "TAKE one",
		"TAKE 1000000000001", "TAKE -1000000000001", "TAKE 9223372036854775807", "TAKE 9223372036854775808", "TAKE -9223372036854775808", "TAKE -9223372036854775809", "TAKE 18446744073709551617", "TAKE 99999999999999999999999999",
		"KNOT 1", "KNOT 1 2 3", "KNOT 1  2", "KNOT 1,2", "SEASON 1 2", "SEASON 1 2 3 4", "SOAK 1 2 3 4 5 6", "SOAK 1 2 3 4 5 6 7 8 9 10 11", "POLE 1 2 3 4 5 6 7 8 9 10 11", "POLE 1 2 3 4 5 6 7 8 9 10 11 12 13",
		"TEST 1 2 3 4", "PROP 1 2 3 4 5", "SHUT 0", "TEST 1 2 3 4 5 6", "PROP 1 2 3 4 5 6 7", "end 0 0", "ENDS 0 0", "EN", "USE\x00", "\xffUSE", "USETAKE 3", "USE USE", "1", "0 USE",
	}
	for _, line := range wrong {
		wantLine(t, 1, api.ErrRow, line+"\n", ended(line+"\n"), line+"\nUSE\n", line+"\nEND 7 7\n", line+"\nEND\n")
		wantLine(t, 3, api.ErrRow, ended("KNOT 1 2\nUSE\n"+line+"\n"), ended("KNOT 1 2\nUSE\n"+line+"\nSHUT\n"), "KNOT 1 2\nUSE\n"+line+"\n", "KNOT 1 2\nUSE\n"+line)
		// Of several lines the first one is told.
		wantLine(t, 2, api.ErrRow, "USE\n"+line+"\n"+line+"\nEND 1 0", "USE\n"+line+"\nEND 1 x\n")
	}
	// No line feed at the end of one that is right but for that.
	for _, line := range []string{"USE", "TAKE 3", "KNOT 1 2", "END 0 0", "END 1 3796", "END"} {
		wantLine(t, 1, api.ErrRow, line)
		wantLine(t, 2, api.ErrRow, "USE\n"+line)
	}
}

// TestEnds has ends that are missing, that are not the last line, with wrong numbers, and not written as they are (P11.5).
func TestEnds(t *testing.T) {
	wantLine(t, 1, api.ErrRow, "")
	wantLine(t, 2, api.ErrRow, "USE\n")
	wantLine(t, 3, api.ErrRow, "USE\nTAKE 3\n")
	// One that is not the last line, whatever its numbers are, and whatever stands behind it.
	for _, behind := range []string{"\n", " ", "x", "USE", "USE\n", "END 0 0\n", "END 1 0\n", "END 1 3796\n", "END 2 0\n", "\n\n", "\x00"} {
		wantLine(t, 1, api.ErrRow, "END 0 0\n"+behind, "END 0 1\n"+behind, "END x\n"+behind, "END\n"+behind)
		wantLine(t, 2, api.ErrRow, "USE\nEND 1 3796\n"+behind, "USE\nEND 0 0\n"+behind)
	}
	for _, numbers := range []string{
		"", " ", " 1", " 1 ", " 1 3796 ", " 1 3796 0", "  1 3796", " 1  3796", " 01 3796", " 1 03796", " +1 3796", " 1 +3796", " -1 3796", " 1 -3796", " -0 3796", " 1 -0", " x 3796", " 1 x", " 1 3796\r", "\t1 3796", " 1.0 3796", " 1 0x0",
		" 1000000000001 3796", " 1 1000000000001", " 9223372036854775808 3796", " 1 18446744073709555412", " -1000000000000 3796", " 1 -1",
	} {
		wantLine(t, 2, api.ErrRow, "USE\nEND"+numbers+"\n", "USE\nEND"+numbers)
	}
	for _, numbers := range []string{" 0 3796", " 2 3796", " 1 3795", " 1 3797", " 1 0", " 0 0", " 1 13769", " 1 1000000000000", " 1000000000000 3796", " 3796 1", " 150 3796", " 10 3796", " 1 37960", " 1 9973"} {
		wantLine(t, 2, api.ErrEnd, "USE\nEND"+numbers+"\n")
		wantLine(t, 2, api.ErrRow, "USE\nEND"+numbers)
	}
	wantLine(t, 1, api.ErrEnd, "END 0 1\n", "END 1 0\n", "END 1 3796\n", "END 0 9973\n", "END 1000000000000 1000000000000\n")
	// Of another log.
	wantLine(t, 2, api.ErrEnd, "TAKE 3\nEND 1 3796\n", "USE\nEND 1 915\n")
	wantLine(t, 3, api.ErrEnd, "TAKE 3\nUSE\nEND 2 3644\n", "USE\nTAKE 3\nEND 1 3796\n")
}
