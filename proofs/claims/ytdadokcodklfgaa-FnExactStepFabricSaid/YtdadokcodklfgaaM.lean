/- Plain mathematics of circuits: literals, lists of literals and of gates, validity; no program. -/
namespace Circ
end Circ
