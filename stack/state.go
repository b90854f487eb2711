package stack

// State tells where a run is, or where one of its callers goes on.
type State struct {
	Place, Frame, Depth int // Place: of the next instruction; all 0 if the run has ended
	Proc                int // the procedure that the place is in
	Co                  int // the running coroutine's address, or 0
	Ended               bool
}

// State returns where the run is (P8.2).
func (m *Machine) State() State {
	switch {
	case !m.hasRun():
		return State{}
	case m.run.ended():
		return State{Ended: true}
	case !m.run.begun:
		return State{Frame: m.run.frame}
	}
	return m.run.state(m.run.coroutine, m.run.context)
}

// Walk returns where the run is, and where its callers go on, from the inside out (P8.2).
func (m *Machine) Walk() []State {
	if !m.hasRun() || m.run.ended() || !m.run.begun {
		return nil
	}
	return m.run.walk()
}

func (r *run) walk() []State {
	var states []State
	c, at := r.coroutine, r.context
	for {
		states = append(states, r.state(c, at))
		if r.isFirst(at.frame, c) {
			if c.parent == nil {
				return states
			}
			c = c.parent
			at = c.context
			continue
		}
		caller, ok := r.caller(at.frame)
		if !ok {
			return states
		}
		at = caller
	}
}

// state tells of a place where a coroutine is, or goes on.
func (r *run) state(c *coroutine, at context) State {
	s := State{Place: at.place, Frame: at.frame, Depth: at.depth, Proc: r.homes[at.place]}
	if c.parent != nil {
		s.Co = c.first
	}
	return s
}
