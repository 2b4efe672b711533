package book

import (
	"iter"
	"strconv"
	"strings"

	"canebrake/api"
)

// end is the word of the last line of a text.
const end = "END"

// words is a word and numbers, each with a space before it.
func words(word string, numbers ...int) string {
	for _, n := range numbers {
		word += " " + strconv.Itoa(n)
	}
	return word
}

// check is told of the bytes of a text.
func check(text string) int {
	told := 0
	for i := range len(text) {
		told = (7*told + int(text[i])) % api.LogPrime
	}
	return told
}

// written is the text of a log.
func written(log []api.Entry) string {
	text := ""
	for _, x := range log {
		text += words(x.Word, x.Args...) + "\n"
	}
	return text + lastLine(len(log), text)
}

// lastLine is the last line of a text, behind so many lines.
func lastLine(number int, lines string) string {
	return words(end, number, check(lines)) + "\n"
}

// read is the log with a text. Beside an error it is that of the lines before the one that is wrong.
func read(text string) (log []api.Entry, e api.Errno) {
	log, rest := readEntries(text)
	switch before := strings.TrimSuffix(text, rest); {
	case !isLastLine(rest):
		return log, api.ErrRow
	case rest != lastLine(len(log), before):
		return log, api.ErrEnd
	}
	return log, api.OK
}

// readEntries reads entries, up to the first line that is not one, and returns what is left of the text if this line is an end.
func readEntries(text string) (log []api.Entry, rest string) {
reading:
	for begin, row := range rows(text) {
		var x api.Entry
		for i, word := range row {
			n, ok := readNumber(word)
			switch {
			case i == 0 && word == end:
				rest = text[begin:]
				break reading
			case i == 0:
				x.Word = word
			case ok:
				x.Args = append(x.Args, n)
			default:
				break reading
			}
		}
		if !validEntry(x) || len(log) == api.MaxEntries {
			break
		}
		log = append(log, entryLike(x))
	}
	return log, rest
}

// rows yields the lines of a text: where each one begins, and its words. A line without a line feed at its end has no words, as none is written so.
func rows(text string) iter.Seq2[int, []string] {
	return func(yield func(int, []string) bool) {
		for begin := 0; begin < len(text); {
			line, _, ends := strings.Cut(text[begin:], "\n")
			var row []string
			if ends {
				row = strings.Split(line, " ")
			}
			if !yield(begin, row) {
				return
			}
			begin += len(line) + 1
		}
	}
}

// readNumber reads a number that is written as words writes it.
func readNumber(word string) (n int, ok bool) {
	n, e := strconv.Atoi(word)
	return n, e == nil && strconv.Itoa(n) == word
}

// isLastLine tells whether what readEntries left of a text is a line like the last one, whatever its numbers are.
func isLastLine(rest string) bool {
	line, behind, _ := strings.Cut(rest, "\n")
	row := strings.Split(line, " ")
	if behind != "" || len(row) != 3 {
		return false
	}
	for _, word := range row[1:] {
		n, ok := readNumber(word)
		if !ok || !within(upTo(api.MaxSaid), n) {
			return false
		}
	}
	return true
}
