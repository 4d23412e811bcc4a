package route

import (
	"errors"
	"strconv"

	"tidemark/api"
)

// What a fault in a configuration's text may be about.
var (
	errForm  = errors.New("not of the form of a configuration")
	errLimit = errors.New("outside the limits of a configuration")
)

// fault is what is wrong with a configuration's text, and in which line, from 1 on; line 0 stands for the text as a whole.
type fault struct {
	line  int
	cause error
}

func (f fault) Error() string {
	if f.line == 0 {
		return f.cause.Error()
	}
	return "line " + strconv.Itoa(f.line) + ": " + f.cause.Error()
}

func (f fault) Unwrap() error { return f.cause }

// reason tells the face's word for what went wrong inside.
func reason(err error) api.Errno {
	var f fault
	if errors.As(err, &f) && errors.Is(f, errLimit) {
		return api.ErrArg
	}
	return api.ErrConfig
}
