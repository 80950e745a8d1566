package span

import "slices"

// Lengths of time, in seconds.
const (
	minute = 60
	hour   = 60 * minute
	day    = 24 * hour
)

// A unit is a length of time with all of its names.
type unit struct {
	seconds int
	names   []string
}

// named is the unit of so many seconds that goes by these names.
func named(seconds int, names ...string) unit { return unit{seconds, names} }

func units() []unit {
	return []unit{
		named(1, "s", "sec", "secs", "second", "seconds"),
		named(minute, "min", "mins", "minute", "minutes"),
		named(hour, "h", "hour", "hours"),
		named(day, "d", "day", "days"),
		named(7*day, "w", "week", "weeks"),
		named(30*day, "mon", "month", "months"),
		named(365*day, "y", "year", "years"),
	}
}

// secondsOf is the length of the unit of this name; false if there is none.
func secondsOf(name string) (int, bool) {
	for _, u := range units() {
		if slices.Contains(u.names, name) {
			return u.seconds, true
		}
	}
	return 0, false
}
