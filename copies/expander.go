package copies

import (
	"slices"

	"columnseven/api"
)

// expander performs COPY statements, those of a list and those of the members that it copies.
type expander struct {
	members   []Member
	used      []string        // the names in the statements that were performed
	expanding map[string]bool // the names of the members that are being expanded, one inside the other
}

// expand returns tokens with all COPY statements performed.
func (x *expander) expand(l []api.Token) ([]api.Token, api.Fault) {
	var expanded []api.Token
	rest := l
	for start := nextCopy(rest); start >= 0; start = nextCopy(rest) {
		s, fault := read(rest[start:])
		if fault != (api.Fault{}) {
			return nil, fault
		}
		inserted, fault := x.perform(s)
		if fault != (api.Fault{}) {
			return nil, fault
		}
		expanded = append(append(expanded, rest[:start]...), inserted...)
		rest = rest[start+s.size:]
		// The whole list counts, in which the statements behind this one still stand as they are.
		if len(expanded)+len(rest) > api.MaxTokens {
			return nil, api.Fault{E: api.ErrLimit, At: s.name.At}
		}
	}
	return slices.Clip(append(expanded, rest...)), api.Fault{}
}

// perform returns the tokens that a COPY statement inserts.
func (x *expander) perform(s statement) ([]api.Token, api.Fault) {
	name := s.name.Text
	refuse := func(e api.Errno) ([]api.Token, api.Fault) { return nil, api.Fault{E: e, At: s.name.At} }
	i := slices.IndexFunc(x.members, func(m Member) bool { return m.Name == name })
	switch {
	case i < 0:
		return refuse(api.ErrNone)
	case x.expanding[name]:
		return refuse(api.ErrLoop)
	case len(x.expanding) == api.MaxCopy || len(x.used) == MaxCopies:
		return refuse(api.ErrLimit)
	}
	x.used = append(x.used, name)
	l, fault := x.member(x.members[i])
	if fault != (api.Fault{}) {
		return nil, fault
	}
	// Replace refuses only its own result, but a member that is too long must not become short enough by it.
	if len(l) > api.MaxTokens {
		return refuse(api.ErrLimit)
	}
	replaced, e := Replace(l, s.replacements)
	if e != api.OK {
		return refuse(e)
	}
	return replaced, api.Fault{}
}

// member returns the tokens of a member with all COPY statements performed.
func (x *expander) member(m Member) ([]api.Token, api.Fault) {
	x.expanding[m.Name] = true
	defer delete(x.expanding, m.Name)
	return x.expand(m.Tokens)
}
