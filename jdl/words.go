package jdl

// Words that tell a number stand at its place in a list: weekdays from Monday on, of which day a condition is, how a lock is held (Mode less 1), where a day is moved (Dir and 1).

func weekdayWords() []string { return []string{"mon", "tue", "wed", "thu", "fri", "sat", "sun"} }

func whenWords() []string { return []string{Odat: "odat", Prev: "prev", Any: "any"} }

func modeWords() []string { return []string{"shared", "exclusive"} }

func dirWords() []string { return []string{"prev", "skip", "next"} }
