package vigil

import (
	"errors"
	"strconv"

	"vigil/api"
)

// refusal is why a line is not answered.
type refusal struct{ errno api.Errno }

// Error is its number.
func (r *refusal) Error() string { return strconv.Itoa(int(r.errno)) }

// misread is the refusal of a text that has been read up to a place, or a line.
type misread struct {
	err error
	at  int
}

// Error is that place.
func (m *misread) Error() string { return strconv.Itoa(m.at) }

func (m *misread) Unwrap() error { return m.err }

// refused is a refusal, if there is an error.
func refused(errno api.Errno) error {
	if errno == api.OK {
		return nil
	}
	return &refusal{errno}
}

// refusedAt is a refusal with a place, if there is an error.
func refusedAt(errno api.Errno, at int) error {
	if errno == api.OK {
		return nil
	}
	return &misread{refused(errno), at}
}

// told is what a session says: an answer, or what is known of an error.
func told(answer string, err error) string {
	var r *refusal
	if !errors.As(err, &r) {
		return answer
	}
	text := "ERR " + r.Error()
	var m *misread
	if errors.As(err, &m) {
		text += " " + m.Error()
	}
	return text
}
