package samples

// Texts returns the texts of accepted programs, with equations of all kinds on several clocks, and with automata.
func Texts() []string {
	return []string{
		"node f(a: int; c: bool) returns (x: int) var y: int; z: int; let x = y + z; y = a + (0 fby z); z = a * 2; tel",
		"node f(a: int; c: bool) returns (x: int; y: int) let x = merge c (true -> (0 -> pre a + 1) when true(c)) (false -> y when false(c)); y = a -> pre x; tel",
		"node count(r: bool) returns (n: int; w: bool) let n = if r then 0 else (0 fby n) + 1; w = '1(001)'; tel node f(a: int; c: bool) returns (x: int; y: int) var n: int; w: bool; p: bool; let (n, w) = count(a > 1) every p; p = (false fby w) or c; x = n + y; y = merge w (true -> a when true(w)) (false -> n when false(w)); tel",
		"type E = P | Q | R; node g(i: int) returns (o: int) let o = i + (0 fby o); tel node f(a: int; c: bool) returns (x: int) var e: E; p: int when P(e); q: bool when Q(e); r: int when Q(e) when true(q); s: int when Q(e) when false(q); u: int when R(e); let " +
			"x = merge e (P -> p) (Q -> merge q (true -> r) (false -> s)) (R -> u); p = (a + 1) when P(e); q = (c when Q(e)) xor '(10)'; r = 1 fby r + 1; s = g((a when Q(e)) when false(q)); u = g(a when R(e)) every (c when R(e)); e = if c then P else R fby (if a > 0 then Q else e); tel",
		"node f(a: int; c: bool) returns (x: int) let automaton state A do x = 0 -> pre x + a; until c and x > 2 then B; done state B var l: int; unless a = 3 continue A; do l = a -> pre l - 1; x = l * 2; done end tel",
		"node f(a: int; c: bool) returns (x: int; p: bool) var d: int; e: int; k: bool when true(c); p1: bool; let x = d - e; d = 0 fby e; e = 1 fby d + a; k = '(110)'; p = merge c (true -> k) (false -> p1 when false(c)); p1 = true fby not p1; tel",
		"node f(a: int; c: bool) returns (x: int; y: int) var z: int; let z = 0 -> pre z + a * 1; automaton state A unless c continue B; do x = z; automaton state C do y = 1 fby y + a; until a > 1 then D; done state D do y = 0 -> pre a; until y < a continue C; done end done " +
			"state B var l: int; do l = a -> pre x - 1; x = l * 2; y = if c then x + 0 else 0; until a = 3 then A; done end tel",
	}
}
