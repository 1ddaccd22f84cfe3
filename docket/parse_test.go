package docket_test

import (
	"fmt"
	"strings"
	"testing"
	"unicode/utf8"

	"docket/api"
	"docket/docket"
)

// P3: texts that are calendars.
func TestParseCalendars(t *testing.T) {
	for _, text := range []string{
		office,
		always,
		"Mo 00:00-00:01",
		"Su 23:59-24:00",
		"Mo 00:00-24:00",
		"Mo 09:59-10:00",
		"Mo 19:00-20:00",
		"Su,Mo,Su 08:00-09:00",
		"Mo 13:00-17:00 09:00-12:00",
		"Mo 09:00-12:00 09:00-12:00",
		"Mo 09:00-12:00;Mo 09:00-12:00",
		"Mo 00:00-24:00!0",
		"Mo 00:00-24:00!69",
		"Mo 00:00-24:00!0,9,10,68,69",
	} {
		calendar(t, text)
	}
}

// P3: the document's table of places.
func TestParsePlacesOfTheDocument(t *testing.T) {
	wantFault(t, "", 0)
	wantFault(t, "Mo 09:00-12:00;", 15)
	wantFault(t, "Mo 09:00-09:00", 13)
	wantFault(t, "Mo 25:00-", 4)
	wantFault(t, "Mo 09:60", 6)
	wantFault(t, "Mo é", 3)
	wantFault(t, "Mo 09:00-24:01", 13)
	wantFault(t, "Mo 00:00-24:00!5,05", 18)
}

// P3: the digits that the document names as no characters of the grammar.
func TestParseDigitsAboveTheTime(t *testing.T) {
	wantFault(t, "Mo 3", 3)
	wantFault(t, "Mo 25", 4)
	wantFault(t, "Mo 09:6", 6)
	wantFault(t, "Mo 24:1", 6)
	wantFault(t, "Mo 24:01", 7)
	wantFault(t, "Mo 09:00-3", 9)
	wantFault(t, "Mo 09:00-25", 10)
	wantFault(t, "Mo 09:00-09:6", 12)
	wantFault(t, "Mo 09:00-24:1", 12)
}

// P3: a text that ends where it may not is told at its end.
func TestParseCutShort(t *testing.T) {
	const text = "Mo,Th 09:00-12:00 13:00-24:00;Su 00:00-00:01!1,2,34"
	calendars := map[int]bool{17: true, 29: true, 44: true, 46: true, 48: true, 50: true, 51: true}
	for n := range len(text) + 1 {
		if calendars[n] {
			calendar(t, text[:n])
		} else {
			wantFault(t, text[:n], n)
		}
	}
}

// P3: a character that the grammar does not have is told where it stands,
// however many bytes it has, and also if it is none.
func TestParseStrangeCharacters(t *testing.T) {
	const text = "Mo,Th 09:00-12:00 13:00-24:00;Su 00:00-00:01!1,2,34"
	strange := []string{"x", "\x00", "\n", "é", "世", "🕘", "٣", "９", "\uFFFD", "\xff", "\xe4\xb8", "\xc3", "é\xff世"}
	for n := range len(text) + 1 {
		for _, s := range strange {
			wantFault(t, text[:n]+s, n)
			wantFault(t, text[:n]+s+text[n:], n)
		}
	}
}

// P3: a second time that is not greater than the first, at its last digit.
func TestParseSpans(t *testing.T) {
	times := []string{"00:00", "00:01", "00:59", "01:00", "09:09", "09:10", "19:59", "20:00", "23:59", "24:00"}
	for i, first := range times {
		for k, second := range times {
			text := "Mo " + first + "-" + second
			if i < k {
				calendar(t, text)
				continue
			}
			wantFault(t, text, 13)
			wantFault(t, text+"x", 13)
			wantFault(t, "Mo 09:00-10:00 "+text[3:], 25)
		}
	}
}

// P3: every time of four digits.
func TestParseTimes(t *testing.T) {
	for hour := range 100 {
		for minute := range 100 {
			text := fmt.Sprintf("Mo %02d:%02d", hour, minute)
			switch {
			case hour >= 30:
				wantFault(t, text, 3)
			case hour > 24:
				wantFault(t, text, 4)
			case minute > 59 || hour == 24 && minute > 9:
				wantFault(t, text, 6)
			case hour == 24 && minute > 0:
				wantFault(t, text, 7)
			default:
				wantFault(t, text, 8)
			}
		}
	}
}

// P3: every number, alone and behind every other.
func TestParseNumbers(t *testing.T) {
	const ahead = "Mo 00:00-24:00!"
	for a := range 100 {
		first := fmt.Sprint(ahead, a)
		if a >= api.Days {
			wantFault(t, first, 16)
			wantFault(t, first+",", 16)
			continue
		}
		calendar(t, first)
		for b := range 100 {
			second := fmt.Sprint(first, ",", b)
			if a < b && b < api.Days {
				calendar(t, second)
				continue
			}
			last := len(second) - 1
			wantFault(t, second, last)
			wantFault(t, second+"x", last)
			wantFault(t, second+",", last)
			wantFault(t, second+"é", last)
		}
	}
}

// P3: a number of two digits does not begin with 0; one of three is none.
func TestParseNumbersWithWrongDigits(t *testing.T) {
	for d := range 10 {
		wantFault(t, fmt.Sprint("Mo 00:00-24:00!0", d), 16)
		wantFault(t, fmt.Sprint("Mo 00:00-24:00!0,0", d), 18)
		wantFault(t, fmt.Sprint("Mo 00:00-24:00!12", d), 17)
		wantFault(t, fmt.Sprint("Mo 00:00-24:00!70", d), 16)
	}
}

// P3: texts of MaxText bytes, and of one more.
func TestParseLongTexts(t *testing.T) {
	spans := strings.Repeat(" 00:00-00:01", 16)
	full, over := "Mo,Mo,Mo"+spans, "Mo,Mo"+spans+"!0,1"
	if len(full) != api.MaxText || len(over) != api.MaxText+1 {
		t.Fatalf("texts of %d and %d bytes", len(full), len(over))
	}
	calendar(t, full)
	calendar(t, over[:len(over)-2])
	wantFault(t, over, 0)
	wantFault(t, full[:api.MaxText-1], api.MaxText-1)
	wantFault(t, full[:api.MaxText-1]+"x", api.MaxText-1)
	wantFault(t, full+"x", 0)
	wantFault(t, "Mo"+strings.Repeat(",Mo", 66), api.MaxText)
	wantFault(t, "Mo"+strings.Repeat(",Mo", 66)+" ", 0)
	wantFault(t, "Mo "+strings.Repeat("é", 98), 3)
	wantFault(t, "Mo "+strings.Repeat("é", 99), 0)
	wantFault(t, "Mo "+strings.Repeat("\xff", 197), 3)
	wantFault(t, "Mo "+strings.Repeat("\xff", 198), 0)
	wantFault(t, strings.Repeat("Mo 00:00-00:01;", 100000), 0)
}

// P3: texts that differ in one place from a calendar, held against a second
// reader, which goes by the grammar's rules instead of by states.
func TestParseNearCalendars(t *testing.T) {
	const signs = "MoTuWehFrSa 0123456789:-;,!xé"
	for _, text := range []string{
		office,
		"Su 23:59-24:00!9,10,69",
		"We,Th 20:00-24:00 00:00-02:30;Tu,Sa 01:01-19:19!0,1",
	} {
		for n := range len(text) + 1 {
			for _, c := range signs {
				compareReaders(t, text[:n]+string(c)+text[n:])
				compareReaders(t, text[:n]+string(c))
				if n < len(text) {
					compareReaders(t, text[:n]+string(c)+text[n+1:])
				}
			}
			if n < len(text) {
				compareReaders(t, text[:n]+text[n+1:])
			}
		}
	}
}

func compareReaders(t *testing.T, text string) {
	t.Helper()
	if place, ok := readByRules(text); ok {
		calendar(t, text)
	} else {
		wantFault(t, text, place)
	}
}

// rules reads a text by descent; a fault leaves it as a panic with the place.
type rules struct {
	chars []rune
	at    int
}

func readByRules(text string) (place int, ok bool) {
	defer func() {
		if p, is := recover().(int); is {
			place, ok = p, false
		}
	}()
	r := &rules{chars: []rune(text)}
	r.calendar()
	return 0, true
}

func (r *rules) next() rune {
	if r.at < len(r.chars) {
		return r.chars[r.at]
	}
	return utf8.MaxRune
}

// one takes one of these characters and answers which of them.
func (r *rules) one(of string) int {
	i := strings.IndexRune(of, r.next())
	if i < 0 {
		panic(r.at)
	}
	r.at++
	return i
}

func (r *rules) skip(c rune) bool {
	if r.next() != c {
		return false
	}
	r.at++
	return true
}

func (r *rules) calendar() {
	r.entry()
	for r.skip(';') {
		r.entry()
	}
	if r.skip('!') {
		ahead := r.number(-1)
		for r.skip(',') {
			ahead = r.number(ahead)
		}
	}
	if r.at < len(r.chars) {
		panic(r.at)
	}
}

func (r *rules) entry() {
	r.day()
	for r.skip(',') {
		r.day()
	}
	r.one(" ")
	r.span()
	for r.skip(' ') {
		r.span()
	}
}

func (r *rules) day() {
	seconds := []string{"o", "uh", "e", "r", "au"}
	r.one(seconds[r.one("MTWFS")])
}

func (r *rules) span() {
	first := r.time()
	r.one("-")
	if r.time() <= first {
		panic(r.at - 1)
	}
}

func (r *rules) time() int {
	ones, tens, last := "0123456789", "012345", "0123456789"
	hour := r.one("012")
	if hour == 2 {
		ones = "01234"
	}
	hour = hour*10 + r.one(ones)
	r.one(":")
	if hour == 24 {
		tens, last = "0", "0"
	}
	return hour*60 + r.one(tens)*10 + r.one(last)
}

func (r *rules) number(ahead int) int {
	const digits = "0123456789"
	n := r.one(digits)
	if strings.ContainsRune(digits, r.next()) {
		if n == 0 {
			panic(r.at)
		}
		n = n*10 + r.one(digits)
	}
	if n <= ahead || n >= api.Days {
		panic(r.at - 1)
	}
	return n
}

// P1, P3: whatever the text, Parse answers, and as the document says.
func FuzzParse(f *testing.F) {
	for _, text := range []string{office, always, "Mo 00:00-24:00!5,05", "Mo é", "\xff"} {
		f.Add(text)
	}
	f.Fuzz(func(t *testing.T, text string) {
		if len(text) > api.MaxText {
			wantFault(t, text, 0)
			return
		}
		compareReaders(t, text)
	})
}

// P1: no panic, and nothing beside an error, at every text of up to two bytes.
func TestParseShortTexts(t *testing.T) {
	for a := range 256 {
		one := string([]byte{byte(a)})
		compareReaders(t, one)
		for b := range 256 {
			compareReaders(t, one+string([]byte{byte(b)}))
		}
	}
}

// P1: an answer is new memory, also where the text is the same.
func TestParseAnswersAreApart(t *testing.T) {
	a, _, _ := docket.Parse(office)
	b, _, _ := docket.Parse(office)
	if a == b {
		t.Fatal("two calls answered one calendar")
	}
	*a = docket.Calendar{}
	wantOpen(t, b, 540, true)
}
