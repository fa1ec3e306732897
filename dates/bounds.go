package dates

// may tells if no number is beyond its bounds.
func (w written) may() bool {
	return (w.date == "" || dateMay(w.date)) && (w.time == "" || timeMay(w.time)) && (w.zone == "" || zoneMay(w.zone))
}

// dateMay tells if there is such a day.
func dateMay(date string) bool {
	year, month, day := number(date, dateForm, 'Y'), number(date, dateForm, 'M'), number(date, dateForm, 'D')
	return 1 <= month && month <= 12 && 1 <= day && day <= days(year, month)
}

// days of a month.
func days(year, month int) int {
	switch month {
	case 2:
		if leap(year) {
			return 29
		}
		return 28
	case 4, 6, 9, 11:
		return 30
	}
	return 31
}

// leap tells if a year has one day more.
func leap(year int) bool { return year%4 == 0 && year%100 != 0 || year%400 == 0 }

// timeMay tells if a day may have such a time; the last second of an hour may be a leap second.
func timeMay(time string) bool {
	hour, minute, second := number(time, timeForm, 'h'), number(time, timeForm, 'm'), number(time, timeForm, 's')
	return hour <= 23 && minute <= 59 && (second <= 59 || second == 60 && minute == 59)
}

// zoneMay tells if there may be such a zone.
func zoneMay(zone string) bool {
	if len(zone) < len(eastForm) {
		return true // `Z` or `z`, which have no numbers
	}
	// West of it the letters stand at the same places.
	return number(zone, eastForm, 'h') <= 23 && number(zone, eastForm, 'm') <= 59
}
