package fault_test

import (
	"errors"
	"fmt"
	"math"
	"slices"
	"testing"

	"dogwatch/api"
	"dogwatch/fault"
)

// holder is an error of others that wraps one.
type holder struct{ inner error }

func (h *holder) Error() string { return "holder" }
func (h *holder) Unwrap() error { return h.inner }

// braggart is an error of others that says yes to whatever errors.Is asks.
type braggart struct{ inner error }

func (b braggart) Error() string   { return "braggart" }
func (b braggart) Unwrap() error   { return b.inner }
func (b braggart) Is(e error) bool { return true }

var errPlain = errors.New("plain")

// nilFault is an error that is not nil but holds a *Fault that is.
func nilFault() error {
	var f *fault.Fault
	return f
}

func asked(code api.Errno) error {
	return &fault.Fault{Link: fault.Link{Code: code}}
}

func link(code api.Errno, part string, at int) fault.Link {
	return fault.Link{Code: code, Part: part, At: at}
}

// checkFault holds an error against the one link and the Err that it should have.
func checkFault(t *testing.T, name string, err error, want fault.Link, inner error) {
	t.Helper()
	f, ok := err.(*fault.Fault)
	if !ok || f == nil {
		t.Errorf("%s: %#v is no *Fault", name, err)
		return
	}
	if f.Link != want {
		t.Errorf("%s: link %v, want %v", name, f.Link, want)
	}
	if inner == nil && f.Err != nil || inner != nil && (f.Err == nil || f.Err != inner) {
		t.Errorf("%s: Err %v, want %v", name, f.Err, inner)
	}
}

func TestNew(t *testing.T) { // P1.1
	for _, l := range []fault.Link{
		link(api.ErrForm, "cmd", 2),
		link(api.ErrArg, "", 0),
		link(api.ErrPlan, "a b: #", -7),
		link(api.ErrAlien, "stück\x00\xff", math.MinInt),
		link(-4, "x", math.MaxInt),
		link(9999, "x", 1),
	} {
		checkFault(t, fmt.Sprint(l), fault.New(l.Code, l.Part, l.At), l, nil)
	}
	if err := fault.New(api.OK, "x", 1); err != nil {
		t.Errorf("OK: %#v, want nil", err)
	}
}

func TestWrap(t *testing.T) { // P1.1
	inner := fault.New(api.ErrForm, "cmd", 2)
	held := &holder{fault.Turn(inner, api.ErrBusy, "y", 3)}
	empty := error(&fault.Fault{})
	for _, c := range []struct {
		name string
		err  error
		code api.Errno
	}{
		{"fault", inner, api.ErrForm},
		{"the first link counts", fault.Turn(inner, api.ErrBusy, "y", 3), api.ErrBusy},
		{"held fault", held, api.ErrBusy},
		{"plain", errPlain, api.ErrAlien},
		{"held plain", &holder{errPlain}, api.ErrAlien},
		{"holder of nothing", &holder{}, api.ErrAlien},
		{"nil *Fault", nilFault(), api.ErrAlien},
		{"fault of the code OK", empty, api.OK},
	} {
		checkFault(t, c.name, fault.Wrap(c.err, "script", -7), link(c.code, "script", -7), c.err)
	}
	if err := fault.Wrap(nil, "x", 1); err != nil {
		t.Errorf("nil: %#v, want nil", err)
	}
}

func TestTurn(t *testing.T) { // P1.1
	inner := fault.New(api.ErrForm, "cmd", 2)
	for _, c := range []struct {
		name       string
		err        error
		code, want api.Errno
	}{
		{"fault", inner, api.ErrState, api.ErrState},
		{"plain", errPlain, api.ErrLast, api.ErrLast},
		{"nil *Fault", nilFault(), api.ErrLast, api.ErrLast},
		{"negative code", inner, -1, -1},
		{"OK keeps the code", inner, api.OK, api.ErrForm},
		{"OK and plain", errPlain, api.OK, api.ErrAlien},
	} {
		checkFault(t, c.name, fault.Turn(c.err, c.code, "sched", -1), link(c.want, "sched", -1), c.err)
	}
	for _, code := range []api.Errno{api.OK, api.ErrArg} {
		if err := fault.Turn(nil, code, "x", 1); err != nil {
			t.Errorf("nil with %d: %#v, want nil", code, err)
		}
	}
}

// shapes are errors of every kind that chapter 1 tells apart, with their links.
func shapes() map[string]struct {
	err   error
	links []fault.Link
} {
	type shape = struct {
		err   error
		links []fault.Link
	}
	cmd := link(api.ErrForm, "cmd", 2)
	script := link(api.ErrState, "script", 7)
	inner := fault.New(cmd.Code, cmd.Part, cmd.At)
	outer := fault.Turn(inner, script.Code, script.Part, script.At)
	return map[string]shape{
		"nil":                {nil, nil},
		"nil *Fault":         {nilFault(), nil},
		"plain":              {errPlain, nil},
		"holder of nothing":  {&holder{}, nil},
		"holder of plain":    {&holder{errPlain}, nil},
		"holder of a nil":    {&holder{nilFault()}, nil},
		"one":                {inner, []fault.Link{cmd}},
		"two":                {outer, []fault.Link{script, cmd}},
		"held":               {&holder{outer}, []fault.Link{script, cmd}},
		"held twice":         {&holder{&holder{outer}}, []fault.Link{script, cmd}},
		"held by fmt":        {fmt.Errorf("more: %w", outer), []fault.Link{script, cmd}},
		"held between":       {fault.Turn(&holder{inner}, script.Code, "script", 7), []fault.Link{script, cmd}},
		"ends in plain":      {fault.Wrap(errPlain, "a", 1), []fault.Link{link(api.ErrAlien, "a", 1)}},
		"ends in held plain": {fault.Wrap(&holder{errPlain}, "a", 1), []fault.Link{link(api.ErrAlien, "a", 1)}},
		"ends in nil *Fault": {fault.Turn(nilFault(), api.ErrCap, "a", 1), []fault.Link{link(api.ErrCap, "a", 1)}},
		"says yes":           {braggart{outer}, []fault.Link{script, cmd}},
		"says yes, empty":    {braggart{}, nil},
		"same link twice":    {fault.Wrap(inner, "cmd", 2), []fault.Link{cmd, cmd}},
		"code OK inside":     {fault.Turn(&fault.Fault{}, api.ErrID, "a", 1), []fault.Link{link(api.ErrID, "a", 1), {}}},
		"nil holder":         {(*holder)(nil), nil},
		"ends in nil holder": {fault.Turn((*holder)(nil), api.ErrID, "a", 1), []fault.Link{link(api.ErrID, "a", 1)}},
	}
}

func TestLinks(t *testing.T) { // P1.2
	for name, s := range shapes() {
		if got := fault.Links(s.err); !slices.Equal(got, s.links) {
			t.Errorf("%s: %v, want %v", name, got, s.links)
		}
	}
}

func TestLinksAreNewMemory(t *testing.T) { // P1.2, rule Memory
	err := fault.Wrap(fault.New(api.ErrForm, "cmd", 2), "script", 7)
	first := fault.Links(err)
	first[0], first[1] = fault.Link{}, fault.Link{}
	if got := fault.Text(err); got != "script 7 #3: cmd 2 #3" {
		t.Errorf("changed by its links: %s", got)
	}
}

func TestCode(t *testing.T) { // P1.2
	for name, s := range shapes() {
		want := api.ErrAlien
		if s.err == nil {
			want = api.OK
		} else if len(s.links) > 0 {
			want = s.links[0].Code
		}
		if got := fault.Code(s.err); got != want {
			t.Errorf("%s: %d, want %d", name, got, want)
		}
	}
	if got := fault.Code(&fault.Fault{}); got != api.OK {
		t.Errorf("fault of the code OK: %d, want 0", got)
	}
}

func TestHas(t *testing.T) { // P1.2
	for name, s := range shapes() {
		for code := api.Errno(-1); code <= api.ErrPlan; code++ {
			want := slices.ContainsFunc(s.links, func(l fault.Link) bool { return l.Code == code })
			if code == api.OK {
				want = s.err == nil
			}
			if got := fault.Has(s.err, code); got != want {
				t.Errorf("%s, code %d: %v, want %v", name, code, got, want)
			}
		}
	}
}

func TestError(t *testing.T) { // P1.3
	for _, c := range []struct {
		link fault.Link
		want string
	}{
		{link(api.ErrForm, "cmd", 2), "cmd 2 #3"},
		{link(api.ErrState, "sched", -1), "sched -1 #15"},
		{link(api.OK, "", 0), " 0 #0"},
		{link(-12, "a b", math.MinInt64), "a b -9223372036854775808 #-12"},
		{link(api.ErrPlan, ": #", math.MaxInt64), ": # 9223372036854775807 #30"},
		{link(api.ErrArg, "stück\xff\n", 10), "stück\xff\n 10 #1"},
	} {
		for _, inner := range []error{nil, errPlain, fault.New(api.ErrCap, "inner", 5)} {
			f := &fault.Fault{Link: c.link, Err: inner}
			if got := f.Error(); got != c.want {
				t.Errorf("%v: %q, want %q", c.link, got, c.want)
			}
		}
	}
}

func TestUnwrap(t *testing.T) { // P1.3
	inner := fault.New(api.ErrForm, "cmd", 2)
	for _, err := range []error{inner, errPlain} {
		f := &fault.Fault{Link: link(api.ErrCap, "a", 1), Err: err}
		if got := f.Unwrap(); got == nil || got != err {
			t.Errorf("%v, want %v", got, err)
		}
	}
	if got := (&fault.Fault{Link: link(api.ErrCap, "a", 1)}).Unwrap(); got != nil {
		t.Errorf("%v, want nil", got)
	}
}

func TestIs(t *testing.T) { // P1.3
	f := &fault.Fault{Link: link(api.ErrForm, "cmd", 2), Err: errPlain}
	for _, c := range []struct {
		name   string
		target error
		want   bool
	}{
		{"its code", asked(api.ErrForm), true},
		{"its code, made by New", fault.New(api.ErrForm, "", 0), true},
		{"another code", asked(api.ErrLong), false},
		{"code OK", asked(api.OK), false},
		{"with a part", fault.New(api.ErrForm, "cmd", 0), false},
		{"with an at", fault.New(api.ErrForm, "", 2), false},
		{"with a negative at", fault.New(api.ErrForm, "", -1), false},
		{"with an Err", &fault.Fault{Link: link(api.ErrForm, "", 0), Err: errPlain}, false},
		{"with a nil *Fault as Err", &fault.Fault{Link: link(api.ErrForm, "", 0), Err: nilFault()}, false},
		{"itself", f, false},
		{"nil", nil, false},
		{"nil *Fault", nilFault(), false},
		{"plain", errPlain, false},
		{"held", &holder{asked(api.ErrForm)}, false},
	} {
		if got := f.Is(c.target); got != c.want {
			t.Errorf("%s: %v, want %v", c.name, got, c.want)
		}
	}
	if outer := (&fault.Fault{Link: link(api.ErrCap, "a", 1), Err: f}); outer.Is(asked(api.ErrForm)) {
		t.Error("Is goes beyond the fault's own link")
	}
	if empty := (&fault.Fault{}); !empty.Is(asked(api.OK)) {
		t.Error("a fault of the code OK is one")
	}
}

func TestNilFault(t *testing.T) { // P1.3
	var f *fault.Fault
	if got := f.Error(); got != "" {
		t.Errorf("Error: %q", got)
	}
	if got := f.Unwrap(); got != nil {
		t.Errorf("Unwrap: %v", got)
	}
	for _, target := range []error{nil, nilFault(), asked(api.OK), asked(api.ErrNil), errPlain} {
		if f.Is(target) {
			t.Errorf("Is %#v", target)
		}
	}
}

func TestText(t *testing.T) { // P1.4
	inner := fault.Wrap(fault.New(api.ErrForm, "cmd", 2), "script", 7)
	for _, c := range []struct {
		name string
		err  error
		want string
	}{
		{"nil", nil, ""},
		{"nil *Fault", nilFault(), "alien"},
		{"plain", errPlain, "alien"},
		{"holder of plain", &holder{errPlain}, "alien"},
		{"nil holder", (*holder)(nil), "alien"},
		{"one link", fault.New(api.ErrArg, "x", 0), "x 0 #1"},
		{"empty link", &fault.Fault{}, " 0 #0"},
		{"two links", inner, "script 7 #3: cmd 2 #3"},
		{"three links", fault.Turn(inner, api.ErrState, "sched", -1), "sched -1 #15: script 7 #3: cmd 2 #3"},
		{"holders tell nothing", &holder{fault.Wrap(&holder{inner}, "a", 1)}, "a 1 #3: script 7 #3: cmd 2 #3"},
		{"wrapped plain", fault.Wrap(errPlain, "a", 1), "a 1 #6"},
	} {
		if got := fault.Text(c.err); got != c.want {
			t.Errorf("%s: %q, want %q", c.name, got, c.want)
		}
	}
}

func TestPersistence(t *testing.T) { // P1.5
	first := link(api.ErrBusy, "first", -3)
	codes := []api.Errno{api.ErrForm, api.OK, api.ErrLast, -8, api.ErrPlan, 77777}
	err := fault.New(first.Code, first.Part, first.At)
	had := map[api.Errno]bool{first.Code: true}
	for i := range 600 {
		switch i % 3 {
		case 0:
			err = fault.Wrap(err, "wrap", i)
		case 1:
			err = fault.Turn(err, codes[i/3%len(codes)], "turn", -i)
		case 2:
			err = &holder{err}
		}
		had[fault.Code(err)] = true
		for code := range had {
			if !errors.Is(err, asked(code)) || !fault.Has(err, code) {
				t.Fatalf("after %d: code %d is lost", i, code)
			}
		}
		if links := fault.Links(err); links[len(links)-1] != first {
			t.Fatalf("after %d: innermost %v, want %v", i, links[len(links)-1], first)
		}
	}
	if len(had) != len(codes) || errors.Is(err, asked(api.ErrCap)) {
		t.Errorf("codes %v, and never ErrCap", had)
	}
	if got := len(fault.Links(err)); got != 401 {
		t.Errorf("%d links, want 401", got)
	}
}

func TestErrorsAs(t *testing.T) { // P1.5: the library finds the outermost fault through errors of others
	var f *fault.Fault
	if !errors.As(&holder{fault.Wrap(errPlain, "a", 1)}, &f) || f.Part != "a" || f.At != 1 || f.Code != api.ErrAlien {
		t.Errorf("%#v", f)
	}
}

func TestDeepTrace(t *testing.T) { // P1.2 and P1.4 on a long trace
	err := fault.New(api.ErrForm, "cmd", 0)
	const deep = 200000
	for i := range deep {
		err = fault.Wrap(err, "w", i)
	}
	if len(fault.Links(err)) != deep+1 || fault.Code(err) != api.ErrForm || fault.Has(err, api.ErrArg) || len(fault.Text(err)) < 7*deep {
		t.Error("a long trace is cut")
	}
}
