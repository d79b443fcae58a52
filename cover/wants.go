package cover

import (
	"slices"
	"strings"

	"caduceus/api"
	"caduceus/filter"
	"caduceus/name"
	"caduceus/value"
)

// maker makes a want of the predicates of one name.
type maker struct {
	want api.Want
}

// Wants are the wants of a filter; none, if it is no filter.
func Wants(f []api.Pred) (wants []api.Want) {
	if !filter.Check(f) {
		return nil
	}
	var makers []*maker
	for _, p := range f {
		at := slices.IndexFunc(makers, func(m *maker) bool { return name.Same(m.want.Name, p.Name) })
		if at < 0 {
			at = len(makers)
			makers = append(makers, &maker{want: api.Want{Name: p.Name}})
		}
		take(makers[at], p)
	}
	slices.SortFunc(makers, func(a, b *maker) int { return name.Compare(a.want.Name, b.want.Name) })
	for _, m := range makers {
		settle(m)
		wants = append(wants, m.want)
	}
	return wants
}

// take makes of a want what a predicate asks.
func take(m *maker, p api.Pred) {
	if p.Op == api.OpHas || m.want.None {
		return
	}
	kind := p.L[0].Kind
	if m.want.Kind != api.KindNone && m.want.Kind != kind {
		m.nothing()
		return
	}
	m.want.Kind = kind
	m.step(p.Op)(p.L)
}

// step is the method that makes of the want what predicates of that Op ask.
func (m *maker) step(op int) func(l []api.Value) {
	switch op {
	case api.OpEq, api.OpIn:
		return m.oneOf
	case api.OpNe:
		return m.notThat
	case api.OpGe:
		return m.atLeast
	case api.OpGt:
		return m.above
	case api.OpLe:
		return m.atMost
	case api.OpLt:
		return m.below
	}
	return m.beginning
}

// nothing: no value will do, whatever else is asked.
func (m *maker) nothing() {
	m.want = api.Want{Name: m.want.Name, None: true}
}

func (m *maker) oneOf(l []api.Value) {
	if !m.want.HasIn {
		m.want.HasIn, m.want.In = true, slices.Clone(l)
		return
	}
	m.want.In = slices.DeleteFunc(m.want.In, func(v api.Value) bool { return !slices.Contains(l, v) })
}

func (m *maker) notThat(l []api.Value) {
	at, is := slices.BinarySearchFunc(m.want.Not, l[0], value.Compare)
	if !is {
		m.want.Not = slices.Insert(m.want.Not, at, l[0])
	}
}

func (m *maker) atLeast(l []api.Value) {
	if !m.want.HasLo || value.Compare(l[0], m.want.Lo) > 0 {
		m.want.HasLo, m.want.Lo, m.want.LoOpen = true, l[0], false
	}
}

func (m *maker) above(l []api.Value) {
	if !m.want.HasLo || value.Compare(l[0], m.want.Lo) >= 0 {
		m.want.HasLo, m.want.Lo, m.want.LoOpen = true, l[0], true
	}
}

func (m *maker) atMost(l []api.Value) {
	if !m.want.HasHi || value.Compare(l[0], m.want.Hi) < 0 {
		m.want.HasHi, m.want.Hi, m.want.HiOpen = true, l[0], false
	}
}

func (m *maker) below(l []api.Value) {
	if !m.want.HasHi || value.Compare(l[0], m.want.Hi) <= 0 {
		m.want.HasHi, m.want.Hi, m.want.HiOpen = true, l[0], true
	}
}

func (m *maker) beginning(l []api.Value) {
	pre := l[0].S
	switch {
	case !m.want.HasPre || strings.HasPrefix(pre, m.want.Pre):
		m.want.HasPre, m.want.Pre = true, pre
	case !strings.HasPrefix(m.want.Pre, pre):
		m.nothing()
		return
	}
	// Nothing that begins with these bytes stands ahead of them.
	m.atLeast(l)
}

// settle brings what was asked of one value by several predicates together. The order of the steps matters: each leans on what the ones ahead of it made.
func settle(m *maker) {
	for _, step := range []func(){m.closeEnds, m.nameBools, m.meetEnds, m.meetPrefix, m.sift} {
		if m.want.None {
			return
		}
		step()
	}
}

// closeEnds: an integer above another one is at least one more.
func (m *maker) closeEnds() {
	if m.want.Kind != api.KindInt {
		return
	}
	if m.want.LoOpen {
		m.want.Lo.N, m.want.LoOpen = m.want.Lo.N+1, false
	}
	if m.want.HiOpen {
		m.want.Hi.N, m.want.HiOpen = m.want.Hi.N-1, false
	}
	if m.want.Lo.N > api.MaxInt || m.want.Hi.N < -api.MaxInt {
		m.nothing()
	}
}

func (m *maker) nameBools() {
	if m.want.Kind == api.KindBool && !m.want.HasIn {
		m.oneOf([]api.Value{{Kind: api.KindBool, N: 0}, {Kind: api.KindBool, N: 1}})
	}
}

func (m *maker) meetEnds() {
	if !m.want.HasLo || !m.want.HasHi {
		return
	}
	order := value.Compare(m.want.Lo, m.want.Hi)
	switch {
	case order > 0 || order == 0 && (m.want.LoOpen || m.want.HiOpen):
		m.nothing()
	case order == 0 && !m.want.HasIn:
		m.oneOf([]api.Value{m.want.Lo})
	}
}

// meetPrefix: what stands behind all that begins with Pre does not begin with it.
func (m *maker) meetPrefix() {
	if m.want.HasPre && m.want.HasLo && m.want.Lo.S > m.want.Pre && !strings.HasPrefix(m.want.Lo.S, m.want.Pre) {
		m.nothing()
	}
}

func (m *maker) sift() {
	if !m.want.HasIn {
		return
	}
	m.want.In = slices.DeleteFunc(m.want.In, func(v api.Value) bool { return !admits(m.want, v) })
	if len(m.want.In) == 0 {
		m.nothing()
	}
}
