// Package fault has errors that tell by which parts of the program they came.
package fault

import (
	"errors"
	"slices"
	"strconv"
	"strings"

	"dogwatch/api"
)

// Link is an error's number, the part that told it, and a place there.
type Link struct {
	Code api.Errno
	Part string
	At   int
}

// text is the link as a text.
func (l Link) text() string {
	return l.Part + " " + strconv.Itoa(l.At) + " #" + strconv.Itoa(int(l.Code))
}

// Fault is an error with a link; Err is what it came of.
type Fault struct {
	Link
	Err error
}

// Error is the link as a text.
func (f *Fault) Error() string {
	if f == nil {
		return ""
	}
	return f.text()
}

// Unwrap is what the fault came of.
func (f *Fault) Unwrap() error {
	if f == nil {
		return nil
	}
	return f.Err
}

// Is tells whether target asks for just this code.
func (f *Fault) Is(target error) bool {
	asked, ok := target.(*Fault)
	if f == nil || !ok || asked == nil {
		return false
	}
	return asked.Err == nil && asked.Link == Link{Code: f.Code}
}

// New is an error of its own.
func New(code api.Errno, part string, at int) error {
	if code == api.OK {
		return nil
	}
	return &Fault{Link: Link{Code: code, Part: part, At: at}}
}

// Wrap is an error that came through a part.
func Wrap(err error, part string, at int) error {
	if err == nil {
		return nil
	}
	return &Fault{Link: Link{Code: Code(err), Part: part, At: at}, Err: err}
}

// Turn is an error that a part tells as another one.
func Turn(err error, code api.Errno, part string, at int) error {
	if err == nil {
		return nil
	}
	if code == api.OK {
		return Wrap(err, part, at)
	}
	return &Fault{Link: Link{Code: code, Part: part, At: at}, Err: err}
}

// Code is an error's code.
func Code(err error) api.Errno {
	if err == nil {
		return api.OK
	}
	if f := outermost(err); f != nil {
		return f.Code
	}
	return api.ErrAlien
}

// Has tells whether one of an error's links has a code.
func Has(err error, code api.Errno) bool {
	if code == api.OK {
		return err == nil
	}
	return errors.Is(bare(Links(err)), &Fault{Link: Link{Code: code}})
}

// Links are an error's, the outermost first.
func Links(err error) []Link {
	var links []Link
	for f := outermost(err); f != nil; f = outermost(f.Err) {
		links = append(links, f.Link)
	}
	return links
}

// Text is all links as one text.
func Text(err error) string {
	if err == nil {
		return ""
	}
	links := Links(err)
	if len(links) == 0 {
		return "alien"
	}
	texts := make([]string, len(links))
	for i, link := range links {
		texts[i] = link.text()
	}
	return strings.Join(texts, ": ")
}

// outermost is the first fault that an error is or wraps, or nil.
// Errors of others are asked on the way: one that panics wraps nothing, as no call here may panic.
func outermost(err error) (found *Fault) {
	defer func() {
		if recover() != nil {
			found = nil
		}
	}()
	var f *Fault
	if errors.As(err, &f) {
		return f
	}
	return nil
}

// bare is an error that has these links and nothing between them.
// An error of others may have an Is of its own, which must not answer for a link.
func bare(links []Link) error {
	var err error
	for _, link := range slices.Backward(links) {
		err = &Fault{Link: link, Err: err}
	}
	return err
}
