package handles_test

import (
	"fmt"
	"math"
	"slices"
	"strings"
	"testing"

	"haymow/api"
	"haymow/handles"
	"haymow/mem"
	"haymow/meter"
	"haymow/ref"
)

// noise goes through numbers that follow no short rule, the same ones each time.
type noise uint64

func (s *noise) below(n int) int {
	*s = *s*6364136223846793005 + 1442695040888963407
	return int(uint64(*s)>>33) % n
}

// ref returns a reference, at times nil, and as often a Bad one.
func (s *noise) ref() ref.Ref {
	switch s.below(8) {
	case 0:
		return ref.Nil
	case 1:
		s.below(1)
		return ref.Ref(uint64(*s) ^ uint64(*s)>>31)
	}
	return ref.Ref(1 + s.below(2*mostIds))
}

// far are tokens that few handles or none ever have, of which some would be
// those of others when their upper bits are dropped, or when their sign is.
func far() []int {
	out := []int{math.MinInt, math.MinInt + 1, math.MinInt + 2, math.MinInt + 5, math.MaxInt - 5, math.MaxInt - 2, math.MaxInt - 1, math.MaxInt}
	for bit := 8; bit < 63; bit++ {
		p := 1 << bit
		out = append(out, p-1, p, p+1, p+2, -p-1, -p, 1-p, 2-p)
	}
	return out
}

// handle is one that there is.
type handle struct {
	token int
	holds ref.Ref
}

// model does as the chapter says. The handles stand in the order of creation.
type model struct {
	handles  []handle
	gens     []int // how often each entry was returned
	returned []int // indices of entries, in their order, those that were taken again left out
	room     int   // entries that the pool has
	dropped  []int // all tokens that were
}

func (m *model) add(r ref.Ref) (int, api.Errno) {
	at := len(m.gens)
	if n := len(m.returned); n > 0 {
		at = m.returned[n-1]
		m.returned = m.returned[:n-1]
	} else {
		m.gens = append(m.gens, 0)
		if at == m.room {
			m.room = max(8, 2*m.room)
		}
	}
	t := at + m.gens[at]*1048576
	m.handles = append(m.handles, handle{token: t, holds: r})
	return t, api.OK
}

// find returns the handle with token t, or what is wrong with a call for it.
func (m *model) find(t int) (*handle, api.Errno) {
	for i := range m.handles {
		if m.handles[i].token == t {
			return &m.handles[i], api.OK
		}
	}
	return nil, api.ErrHandle
}

func (m *model) drop(t int) api.Errno {
	if _, e := m.find(t); e != api.OK {
		return e
	}
	m.handles = slices.DeleteFunc(m.handles, func(x handle) bool { return x.token == t })
	at := t % 1048576
	m.gens[at]++
	m.returned = append(m.returned, at)
	m.dropped = append(m.dropped, t)
	return api.OK
}

func (m *model) get(t int) (ref.Ref, api.Errno) {
	x, e := m.find(t)
	if e != api.OK {
		return ref.Nil, e
	}
	return x.holds, api.OK
}

func (m *model) set(t int, r ref.Ref) api.Errno {
	x, e := m.find(t)
	if e == api.OK {
		x.holds = r
	}
	return e
}

func (m *model) turn(to func(r ref.Ref) ref.Ref) {
	for i, x := range m.handles {
		if x.holds != 0 {
			m.handles[i].holds = to(x.holds)
		}
	}
}

func (m *model) tokens() []int {
	var out []int
	for _, x := range m.handles {
		out = append(out, x.token)
	}
	return out
}

// held returns all that is not nil in the order in which Turn meets it.
func (m *model) held() []ref.Ref {
	var out []ref.Ref
	for _, x := range m.handles {
		if x.holds != 0 {
			out = append(out, x.holds)
		}
	}
	return out
}

// asked are the tokens that tell most about a set: of each entry the one that
// it has or will have next, the one before and the one behind it, and those of
// entries that there are not.
func (m *model) asked() []int {
	out := []int{-1, -1048576, len(m.gens), len(m.gens) + 1, len(m.gens) + 1048576}
	for at, gen := range m.gens {
		for g := gen - 1; g <= gen+1; g++ {
			out = append(out, at+g*1048576)
		}
	}
	return out
}

// tell is all that Handles should tell, beside their steps.
func (m *model) tell() string {
	var b strings.Builder
	fmt.Fprint(&b, len(m.handles), 4*m.room, m.tokens(), m.held())
	for _, t := range m.asked() {
		r, e := m.get(t)
		fmt.Fprint(&b, " ", r, e)
	}
	return b.String()
}

// pair is Handles and a model on which the same calls are made.
type pair struct {
	m     *mem.Mem
	got   *handles.Handles
	want  model
	other int // words of the Mem that are in use beside those of the Handles
}

// newPair makes Handles in m.
func newPair(t *testing.T, m *mem.Mem) *pair {
	t.Helper()
	other := m.Held()
	h, e := handles.New(m)
	if e != api.OK || h == nil {
		t.Fatalf("New: %v, error %d", h, e)
	}
	return &pair{m: m, got: h, other: other}
}

// held returns all that is not nil, in the order of Turn.
func held(h *handles.Handles) []ref.Ref {
	var out []ref.Ref
	h.Turn(func(r ref.Ref) ref.Ref {
		out = append(out, r)
		return r
	})
	return out
}

// tokens returns what Tokens yields.
func tokens(h *handles.Handles) []int { return slices.Collect(h.Tokens()) }

// tell is all that Handles tell, beside their steps.
func (p *pair) tell() string {
	h := p.got
	var b strings.Builder
	fmt.Fprint(&b, h.Count(), p.m.Held()-p.other, tokens(h), held(h))
	for _, t := range p.want.asked() {
		r, e := h.Get(t)
		fmt.Fprint(&b, " ", r, e)
	}
	return b.String()
}

func (p *pair) check(t *testing.T, call string, args ...any) {
	t.Helper()
	if got, want := p.tell(), p.want.tell(); got != want {
		t.Fatalf("%s%v:\n%s, not\n%s", call, args, got, want)
	}
}

// steps returns how many steps a call takes.
func steps(m *mem.Mem, call func()) int {
	before := m.Steps()
	call()
	return int(m.Since(before).Lo)
}

// most fails unless a call takes at most so many steps.
func (p *pair) most(t *testing.T, most int, call func(), name string, args ...any) {
	t.Helper()
	if got := steps(p.m, call); got > most {
		t.Fatalf("%s%v: %d steps, not at most %d", name, args, got, most)
	}
}

// same fails unless both made the same of a call.
func same[T comparable](t *testing.T, call string, got T, e api.Errno, want T, f api.Errno, args ...any) {
	t.Helper()
	if got != want || e != f {
		t.Fatalf("%s%v: %v, error %d, not %v, error %d", call, args, got, e, want, f)
	}
}

// add returns the token of a handle.
func (p *pair) add(t *testing.T, r ref.Ref) int {
	t.Helper()
	want, f := p.want.add(r)
	p.most(t, 16, func() {
		got, e := p.got.Add(r)
		same(t, "Add", got, e, want, f, r)
	}, "Add", r)
	return want
}

func (p *pair) drop(t *testing.T, token int) api.Errno {
	t.Helper()
	want := p.want.drop(token)
	p.most(t, 12, func() { same(t, "Drop", 0, p.got.Drop(token), 0, want, token) }, "Drop", token)
	return want
}

func (p *pair) get(t *testing.T, token int) api.Errno {
	t.Helper()
	want, f := p.want.get(token)
	p.most(t, 6, func() {
		got, e := p.got.Get(token)
		same(t, "Get", got, e, want, f, token)
	}, "Get", token)
	return f
}

func (p *pair) set(t *testing.T, token int, r ref.Ref) api.Errno {
	t.Helper()
	want := p.want.set(token, r)
	p.most(t, 6, func() { same(t, "Set", 0, p.got.Set(token, r), 0, want, token, r) }, "Set", token, r)
	return want
}

// turn fails unless to is given the same references in the same order.
func (p *pair) turn(t *testing.T, to func(r ref.Ref) ref.Ref) {
	t.Helper()
	var met []ref.Ref
	want := p.want.held()
	p.most(t, 6*len(p.want.handles), func() {
		p.got.Turn(func(r ref.Ref) ref.Ref {
			met = append(met, r)
			return to(r)
		})
	}, "Turn")
	if !slices.Equal(met, want) {
		t.Fatalf("Turn: %v, not %v", met, want)
	}
	p.want.turn(to)
}

// ask fails unless the calls that tell of all handles are right and take as
// many steps as they may.
func (p *pair) ask(t *testing.T) {
	t.Helper()
	p.most(t, 0, func() { same(t, "Count", p.got.Count(), 0, len(p.want.handles), 0) }, "Count")
	p.most(t, 0, func() { p.got.Turn(nil) }, "Turn of nil")
	p.most(t, 3*len(p.want.handles), func() {
		if got := tokens(p.got); !slices.Equal(got, p.want.tokens()) {
			t.Fatalf("Tokens: %v, not %v", got, p.want.tokens())
		}
	}, "Tokens")
}

// addAll adds handles that hold the references from 1001 on.
func (p *pair) addAll(t *testing.T, n int) {
	t.Helper()
	for i := range n {
		p.add(t, ref.Ref(1001+i))
	}
}

// dropAll drops handles that there are, with a check after each.
func (p *pair) dropAll(t *testing.T, tokens ...int) {
	t.Helper()
	for _, token := range tokens {
		if e := p.drop(t, token); e != api.OK {
			t.Fatalf("Drop(%d): error %d", token, e)
		}
		p.check(t, "Drop", token)
	}
}

// order fails unless Tokens yields these.
func (p *pair) order(t *testing.T, call string, want ...int) {
	t.Helper()
	if got := tokens(p.got); !slices.Equal(got, want) {
		t.Fatalf("%s: Tokens %v, not %v", call, got, want)
	}
}

// refused fails unless no call takes these tokens.
func (p *pair) refused(t *testing.T, tokens ...int) {
	t.Helper()
	for _, token := range tokens {
		for call, e := range map[string]api.Errno{"Drop": p.drop(t, token), "Get": p.get(t, token), "Set": p.set(t, token, 7)} {
			if e != api.ErrHandle {
				t.Fatalf("%s(%d): error %d", call, token, e)
			}
		}
	}
	p.check(t, "refused")
}

// token returns one that a handle has, had, will have, or has not.
func (p *pair) token(s *noise) int {
	list := p.want.tokens()
	switch n := s.below(20); {
	case n < 2:
		list = p.want.asked()
	case n < 4:
		list = p.want.dropped
	case n < 5:
		list = far()
	}
	if len(list) == 0 {
		return s.below(4) - 1
	}
	return list[s.below(len(list))]
}

// run makes calls that follow no short rule, of which some fail, and tells
// check of each. Handles become more, then fewer, and so on.
func (p *pair) run(t *testing.T, seed noise, calls int, check func(call string, e api.Errno)) {
	t.Helper()
	for i := range calls {
		token := p.token(&seed)
		var e api.Errno
		var call string
		switch n := seed.below(24); {
		case n < 4, n < 7 && i/60%2 == 0:
			call = "Add"
			p.add(t, seed.ref())
		case n < 11:
			call, e = "Drop", p.drop(t, token)
		case n < 15:
			call, e = "Get", p.get(t, token)
		case n < 22:
			call, e = "Set", p.set(t, token, seed.ref())
		case n < 23:
			call = "Turn"
			add := seed.ref()
			p.turn(t, func(r ref.Ref) ref.Ref { return r ^ add })
		default:
			call = "ask"
			p.ask(t)
		}
		check(call, e)
	}
}

// counted is what a Mem tells beside its words.
func counted(m *mem.Mem) string {
	return fmt.Sprint(m.Of(meter.Reads), m.Of(meter.Writes), m.Held(), m.High(), m.Spaces())
}
