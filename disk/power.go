package disk

// power takes so many steps off those that it is on for, and tells whether it is on then.
type power func(steps int) bool

func lasting() power {
	return func(int) bool { return true }
}

// goingBehind is a power that goes behind so many steps.
func goingBehind(left int) power {
	return func(steps int) bool {
		left -= steps
		return left > 0
	}
}
