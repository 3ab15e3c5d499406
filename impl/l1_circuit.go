package impl

// MaxInputs is the maximum number of inputs of a circuit; MaxLatches, MaxGates and MaxOutputs bound its latches, gates and outputs.
const (
	MaxInputs  = 4
	MaxLatches = 3
	MaxGates   = 14
	MaxOutputs = 3
)

// Gate is a two-input AND gate. A and B are literals: twice a variable, plus 1 if it is complemented.
type Gate struct {
	A int
	B int
}

// Circuit is a sequential and-inverter graph. Variable 0 is constant false; variables 1..Inputs are the inputs, followed by one variable for every latch and one for every gate. Next holds the next-state literal of every latch; all latches start at 0. Outs holds the output literals.
type Circuit struct {
	Inputs int
	Next   []int
	Gates  []Gate
	Outs   []int
}

// literal is the named form of the literals that gates, next states and outputs hold.
type literal int

// Var returns the variable of l. It shifts because a division would round -1 to variable 0.
func (l literal) Var() int {
	return int(l >> 1)
}

// Complement returns the literal of the same variable that has the opposite value.
func (l literal) Complement() literal {
	return l ^ 1
}

// CircuitValid reports whether c is valid: its numbers of inputs, latches, gates and outputs are within the limits, every gate refers only to variables before its own, and all next-state and output literals refer to existing variables.
func CircuitValid(c Circuit) bool {
	// The limits come first: a huge number of inputs must not reach the sums of firstGate.
	if !withinLimits(c) || !gatesOrdered(c) {
		return false
	}
	count := firstGate(c) + len(c.Gates)
	return allReferBelow(c.Next, count) && allReferBelow(c.Outs, count)
}

func withinLimits(c Circuit) bool {
	return c.Inputs >= 0 && c.Inputs <= MaxInputs &&
		len(c.Next) <= MaxLatches &&
		len(c.Gates) <= MaxGates &&
		len(c.Outs) <= MaxOutputs
}

// firstGate returns the variable that the first gate has, whether or not there is a gate.
func firstGate(c Circuit) int {
	return 1 + c.Inputs + len(c.Next)
}

func gatesOrdered(c Circuit) bool {
	first := firstGate(c)
	for i, g := range c.Gates {
		if !refersBelow(g.A, first+i) || !refersBelow(g.B, first+i) {
			return false
		}
	}
	return true
}

func allReferBelow(lits []int, count int) bool {
	for _, lit := range lits {
		if !refersBelow(lit, count) {
			return false
		}
	}
	return true
}

// refersBelow reports whether lit is a literal of one of the first count variables.
func refersBelow(lit int, count int) bool {
	v := literal(lit).Var()
	return v >= 0 && v < count
}

// VarCount returns the number of variables of a valid circuit, including constant false, and 0 for an invalid one.
func VarCount(c Circuit) int {
	if !CircuitValid(c) {
		return 0
	}
	return firstGate(c) + len(c.Gates)
}

// Depth returns the maximum level of the output and next-state literals of a valid circuit, where constants, inputs and latches have level 0 and a gate has one more than the maximum level of its operands; 0 if there are no such literals. It returns -1 for an invalid circuit.
func Depth(c Circuit) int {
	if !CircuitValid(c) {
		return -1
	}
	levels := varLevels(c)
	return max(highestLevel(levels, c.Next), highestLevel(levels, c.Outs))
}

// varLevels returns the level of every variable of a valid circuit.
func varLevels(c Circuit) []int {
	first := firstGate(c)
	levels := make([]int, first+len(c.Gates))
	for i, g := range c.Gates {
		levels[first+i] = 1 + max(levels[literal(g.A).Var()], levels[literal(g.B).Var()])
	}
	return levels
}

// highestLevel returns the maximum level of the literals, 0 if there are none.
func highestLevel(levels []int, lits []int) int {
	highest := 0
	for _, lit := range lits {
		highest = max(highest, levels[literal(lit).Var()])
	}
	return highest
}
