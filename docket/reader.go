package docket

import "docket/api"

// state is what the reader waits for.
type state int

const (
	dayFirst     state = iota // a day's first letter
	daySecond                 // its second letter
	dayEnd                    // one more day, or the spans
	hourTens                  // a time's first digit
	hourOnes                  // its second
	hourEnd                   // the colon
	minuteTens                // its third digit
	minuteOnes                // its fourth
	beginEnd                  // the dash between two times
	spanEnd                   // one more span or entry, the numbers, or the text's end
	numberFirst               // a number's first digit
	numberSecond              // its second, or what comes behind the number
	numberEnd                 // one more number, or the text's end
)

// none stands where there is no time and no number yet: it is below all of them.
const none = -1

// dayNames are in the order of the week, which Monday begins.
var dayNames = [weekDays]string{"Mo", "Tu", "We", "Th", "Fr", "Sa", "Su"}

// reader is what the characters read so far tell.
type reader struct {
	state  state
	place  int            // how many characters were taken; at a fault, its place
	letter rune           // the first of the day that is being read
	days   [weekDays]bool // of the entry that is being read
	begin  int            // of the span that is being read; none, while this is read itself
	time   int            // what the digits of a time come to so far
	number int
	ahead  int // the number ahead of it
	week   [weekDays][]span
	free   [api.Days]bool
}

func newReader() *reader {
	return &reader{state: dayFirst, begin: none, ahead: none}
}

// take reads one character; false, if there is a fault at r.place.
func (r *reader) take(c rune) bool {
	switch r.state {
	case dayFirst:
		return r.takeDayFirst(c)
	case daySecond:
		return r.takeDaySecond(c)
	case dayEnd:
		return r.takeDayEnd(c)
	case hourTens:
		return r.takeTimeDigit(c, 9, 600, hourOnes)
	case hourOnes:
		return r.takeTimeDigit(c, 9, 60, hourEnd)
	case hourEnd:
		return r.takeMark(c, ':', minuteTens)
	case minuteTens:
		return r.takeTimeDigit(c, 5, 10, minuteOnes)
	case minuteOnes:
		return r.takeTimeDigit(c, 9, 1, spanEnd) && r.endTime()
	case beginEnd:
		return r.takeMark(c, '-', hourTens)
	case spanEnd:
		return r.takeSpanEnd(c)
	case numberFirst:
		return r.takeNumberFirst(c)
	case numberSecond:
		return r.takeNumberSecond(c)
	default:
		return r.takeMark(c, ',', numberFirst)
	}
}

// finish reads the text's end; false, if there is a fault at r.place.
func (r *reader) finish() bool {
	if r.state == numberSecond {
		return r.endShortNumber()
	}
	return r.state == spanEnd || r.state == numberEnd
}

func (r *reader) takeMark(c, mark rune, next state) bool {
	if c != mark {
		return false
	}
	r.state = next
	return true
}

func (r *reader) takeDayFirst(c rune) bool {
	for _, name := range dayNames {
		if c == rune(name[0]) {
			r.letter = c
			r.state = daySecond
			return true
		}
	}
	return false
}

func (r *reader) takeDaySecond(c rune) bool {
	for day, name := range dayNames {
		if r.letter == rune(name[0]) && c == rune(name[1]) {
			r.days[day] = true
			r.state = dayEnd
			return true
		}
	}
	return false
}

func (r *reader) takeDayEnd(c rune) bool {
	return r.takeMark(c, ',', dayFirst) || r.takeMark(c, ' ', hourTens)
}

// takeTimeDigit reads a digit that counts so many minutes. The digits behind it
// can only add to the time, so that above 24:00 is a fault at once.
func (r *reader) takeTimeDigit(c rune, most, minutes int, next state) bool {
	d, ok := digit(c)
	if !ok || d > most || r.time+d*minutes > api.Day {
		return false
	}
	r.time += d * minutes
	r.state = next
	return true
}

func (r *reader) endTime() bool {
	time := r.time
	r.time = 0
	if r.begin == none {
		r.begin = time
		r.state = beginEnd
		return true
	}
	if time <= r.begin {
		return false
	}
	r.addSpan(span{begin: r.begin, end: time})
	r.begin = none
	return true
}

func (r *reader) addSpan(s span) {
	for day, named := range r.days {
		if named {
			r.week[day] = append(r.week[day], s)
		}
	}
}

func (r *reader) takeSpanEnd(c rune) bool {
	if r.takeMark(c, ';', dayFirst) {
		r.days = [weekDays]bool{}
		return true
	}
	return r.takeMark(c, ' ', hourTens) || r.takeMark(c, '!', numberFirst)
}

func (r *reader) takeNumberFirst(c rune) bool {
	d, ok := digit(c)
	if !ok {
		return false
	}
	r.number = d
	r.state = numberSecond
	return true
}

func (r *reader) takeNumberSecond(c rune) bool {
	d, ok := digit(c)
	if !ok {
		return r.endShortNumber() && r.takeMark(c, ',', numberFirst)
	}
	if r.number == 0 {
		return false
	}
	r.number = r.number*10 + d
	return r.endNumber()
}

// endShortNumber ends a number of one digit. That it has ended shows only one
// character later, but the place of its fault is the digit.
func (r *reader) endShortNumber() bool {
	if r.endNumber() {
		return true
	}
	r.place--
	return false
}

func (r *reader) endNumber() bool {
	if r.number >= api.Days || r.number <= r.ahead {
		return false
	}
	r.free[r.number] = true
	r.ahead = r.number
	r.state = numberEnd
	return true
}

func digit(c rune) (int, bool) {
	if c < '0' || c > '9' {
		return 0, false
	}
	return int(c - '0'), true
}
