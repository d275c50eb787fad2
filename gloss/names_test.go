package gloss_test

import (
	"testing"

	"gloss/gloss"
)

// Only constants can stand here: a variable of one of these names would not build.
const (
	number0 gloss.Errno = gloss.OK
	number1 gloss.Errno = gloss.ErrLong
	number2 gloss.Errno = gloss.ErrForm
	number3 gloss.Errno = gloss.ErrMany
	number4 gloss.Errno = gloss.ErrTwice
	number5 gloss.Errno = gloss.ErrNone
	number6 gloss.Errno = gloss.ErrArg
	number7 gloss.Errno = gloss.ErrData
)

func TestErrorsHaveTheirNumbers(t *testing.T) {
	for i, e := range []gloss.Errno{number0, number1, number2, number3, number4, number5, number6, number7} {
		if int(e) != i {
			t.Errorf("the error that should be %d is %d", i, e)
		}
	}
}
