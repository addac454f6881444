package desugar

import "testing"

// P5.2: for expressions with one generator, with each sort of pattern.
func TestPatternsOfGenerators(t *testing.T) {
	for _, c := range [][2]string{
		{`for (x <- a) yield b`, `a.map(x => b)`},
		{`for (x <- a) do b`, `a.foreach(x => b)`},
		{`for (x <- a) b`, `a.foreach(x => b)`},
		{`for (x: T <- a) yield b`, `a.map((x: T) => b)`},
		{`for (_: T <- a) yield b`, `a.map(_1 => _1 match { case _: T => b })`},
		{`for (_ <- a) yield b`, `a.map(_1 => _1 match { case _ => b })`},
		{`for (x @ P(y) <- a) yield b`, `a.map(_1 => _1 match { case x @ P(y) => b })`},
		{`for (x @ (y: T) <- a) yield b`, `a.map(_1 => _1 match { case x @ (y: T) => b })`},
		{`for (1 <- a) yield b`, `a.map(_1 => _1 match { case 1 => b })`},
		{`for (P <- a) yield b`, `a.map(_1 => _1 match { case P => b })`},
		{`for (P(x, _) <- a) do b`, `a.foreach(_1 => _1 match { case P(x, _) => b })`},
		{`for (1 | 2 <- a) yield b`, `a.map(_1 => _1 match { case 1 | 2 => b })`},
		{`for (x <- -a) yield -x`, `a.-.map(x => x.-)`},
	} {
		wantExpr(t, c[0], c[1])
	}
}

// P5.2: enumerators in any order.
func TestEnumerators(t *testing.T) {
	for _, c := range [][2]string{
		// generators
		{`for { x <- a; y <- b } yield c`, `a.flatMap(x => b.map(y => c))`},
		{`for { x <- a; y <- b } do c`, `a.foreach(x => b.foreach(y => c))`},
		{`for { x <- a; y <- b; z <- c } yield d`, `a.flatMap(x => b.flatMap(y => c.map(z => d)))`},
		{`for { P(x) <- a; y: T <- b } yield c`, `a.flatMap(_1 => _1 match { case P(x) => b.map((y: T) => c) })`},
		// guards
		{`for { x <- a if b } do c`, `a.withFilter(x => b).foreach(x => c)`},
		{`for { x <- a if b if c } yield d`, `a.withFilter(x => b).withFilter(x => c).map(x => d)`},
		{`for { x <- a if b; y <- c if d } yield e`, `a.withFilter(x => b).flatMap(x => c.withFilter(y => d).map(y => e))`},
		{`for { x <- a; y <- b if c } do d`, `a.foreach(x => b.withFilter(y => c).foreach(y => d))`},
		// bindings at the end
		{`for { x <- a; y = b } yield c`, `a.map(x => b match { case y => c })`},
		{`for { x <- a; y = b; P(z) = c } do d`, `a.foreach(x => b match { case y => c match { case P(z) => d } })`},
		// bindings in front of a guard
		{`for { x <- a; y = b; if c } yield d`, `a.withFilter(x => b match { case y => c }).map(x => b match { case y => d })`},
		{`for { x <- a; y = b; z = c; if d; if e } do f`,
			`a.withFilter(x => b match { case y => c match { case z => d } }).withFilter(x => b match { case y => c match { case z => e } })` +
				`.foreach(x => b match { case y => c match { case z => f } })`},
		{`for { x <- a; y = b; if c; z = d; if e } yield f`,
			`a.withFilter(x => b match { case y => c }).withFilter(x => b match { case y => d match { case z => e } })` +
				`.map(x => b match { case y => d match { case z => f } })`},
		{`for { x <- a if b; y = c } yield d`, `a.withFilter(x => b).map(x => c match { case y => d })`},
		// bindings in front of a generator
		{`for { x <- a; y = b; z <- c } yield d`, `a.flatMap(x => b match { case y => c.map(z => d) })`},
		{`for { x <- a; y = b; if c; z <- d if e } yield f`,
			`a.withFilter(x => b match { case y => c }).flatMap(x => b match { case y => d.withFilter(z => e).map(z => f) })`},
		{`for { x <- a; y = b; z <- c; w = d } do e`, `a.foreach(x => b match { case y => c.foreach(z => d match { case w => e }) })`},
	} {
		wantExpr(t, c[0], c[1])
	}
}

// P5.2: the fresh names of a for expression are taken, in the order of its
// functions, ahead of those of its parts.
func TestFreshNamesOfLoops(t *testing.T) {
	for _, c := range [][2]string{
		{`for { P(x) <- a; if b } yield c`, `a.withFilter(_1 => _1 match { case P(x) => b }).map(_2 => _2 match { case P(x) => c })`},
		{`for { P(x) <- a; Q(y) <- b; if c } yield d`,
			`a.flatMap(_1 => _1 match { case P(x) => b.withFilter(_2 => _2 match { case Q(y) => c }).map(_3 => _3 match { case Q(y) => d }) })`},
		{`for { P(x) <- a; y = b; if c } yield d`,
			`a.withFilter(_1 => _1 match { case P(x) => b match { case y => c } }).map(_2 => _2 match { case P(x) => b match { case y => d } })`},
		{`for (P(x) <- a :: b) yield c :: d`,
			`{ val _2 = a; b.::(_2) }.map(_1 => _1 match { case P(x) => { val _3 = c; d.::(_3) } })`},
		{`for { x <- a :: b; P(y) <- c } yield d`, `{ val _2 = a; b.::(_2) }.flatMap(x => c.map(_1 => _1 match { case P(y) => d }))`},
		{`for { x <- a; y = b :: c; if d } yield e`,
			`a.withFilter(x => { val _1 = b; c.::(_1) } match { case y => d }).map(x => { val _2 = b; c.::(_2) } match { case y => e })`},
		{`for (P(x) <- for (Q(y) <- a) yield b) yield for (R(z) <- c) yield d`,
			`a.map(_2 => _2 match { case Q(y) => b }).map(_1 => _1 match { case P(x) => c.map(_3 => _3 match { case R(z) => d }) })`},
	} {
		wantExpr(t, c[0], c[1])
	}
}
