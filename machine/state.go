package machine

import "strconv"

// objectOf tells the object of a variable of a function at work (-1: it has none).
func (m *Machine) objectOf(depth, variable int) int {
	wanted := home{depth: depth, variable: variable}
	for i := 0; i < len(m.homes); i++ {
		if m.homes[i] == wanted && !m.store.Gone(i) {
			return i
		}
	}
	return -1
}

func (m *Machine) typeOf(variable int) string {
	if variable < 0 || variable >= len(m.locals) {
		return ""
	}
	return m.locals[variable].Type
}

// callerOf tells the point that called a function at work (-1: it is the program).
func (m *Machine) callerOf(n int) int {
	if n < 0 || n >= len(m.callers) {
		return -1
	}
	return m.callers[n]
}

func (m *Machine) showStep() string {
	return strconv.Itoa(m.last) + "@" + strconv.Itoa(m.next)
}

func (m *Machine) showFuncs() string {
	text := ""
	for i := 0; i < m.depth; i++ {
		text += "\n(" + strconv.Itoa(m.callerOf(i)+1) + m.showVars(i+1)
	}
	return text
}

func (m *Machine) showVars(depth int) string {
	text := ""
	for v := 0; v < len(m.locals); v++ {
		n := m.objectOf(depth, v)
		if n >= 0 {
			text += " " + m.locals[v].Name + "=#" + strconv.Itoa(n)
		}
	}
	return text
}
