package names

import "testing"

func TestSymbols(t *testing.T) { // P11.1
	x := newExample(
		"type «T»Color = Red | Rgb({ x: Color })\n"+
			"table «I»item { id: Int, tag: Color } key(id) ref id to item check «l»let v = id in v < 2",
		"fun «f»f(«x»x, «y»y: Int = «d»let d = 1 in d) = «v»let v = x in [w | w <- v«w», u <- w«u», w == u]\n"+
			"proc «p»p(«q»q) = insert t q; «r»delete t as r where r.a;\n"+
			"«s»update t as s where s.b set match s { A(c) -> c«c1», B -> 1, C(c) -> c«c2» }\n",
	)
	checkList(t, x, "Symbols", Symbols(x.ms), showSymbol,
		"type a:Color@«T»",
		"ctor a:Color.Red@«T»",
		"ctor a:Color.Rgb@«T»",
		"table a:item@«I»",
		"column a:item.id@«I»",
		"column a:item.tag@«I»",
		"local a:item.v@«l»",
		"fun b:f@«f»",
		"param b:f.x@«x»",
		"param b:f.y@«y»",
		"local b:f.d@«d»",
		"local b:f.v@«v»",
		"local b:f.w@«w»",
		"local b:f.u@«u»",
		"proc b:p@«p»",
		"param b:p.q@«q»",
		"local b:p.r@«r»",
		"local b:p.s@«s»",
		"local b:p.c@«c1»",
		"local b:p.c@«c2»",
	)
}

func TestUsesOfTypesAndTables(t *testing.T) { // P11.2
	x := newExample(
		"type «T»T«T2» = A | B([{ y: U, x: T }])\n" +
			"type «U»U«U2» = C({ z: Int, a: Text, b: Bool })\n" +
			"table «t»t«t2» { i: Int, j: [V] } key(i, h, i) ref j to u ref h to t check «i»i«i2» < «f»f(«k»k«k2», «t3»t«t4»)«f2»",
	)
	checkList(t, x, "Uses", Uses(x.ms), showUse,
		"a «T»-«T2» T = type a:T@«T»",
		"a «T»-«T2» A = ctor a:T.A@«T»",
		"a «T»-«T2» B = ctor a:T.B@«T»",
		"a «T»-«T2» T = type a:T@«T»", // fields are in the order of their names
		"a «T»-«T2» U = type a:U@«U»",
		"a «U»-«U2» U = type a:U@«U»",
		"a «U»-«U2» C = ctor a:U.C@«U»",
		"a «t»-«t2» t = table a:t@«t»",
		"a «t»-«t2» i = column a:t.i@«t»",
		"a «t»-«t2» j = column a:t.j@«t»",
		"a «t»-«t2» V = ?",
		"a «t»-«t2» i = column a:t.i@«t»",
		"a «t»-«t2» h = ?",
		"a «t»-«t2» i = column a:t.i@«t»",
		"a «t»-«t2» j = column a:t.j@«t»",
		"a «t»-«t2» u = ?",
		"a «t»-«t2» h = ?",
		"a «t»-«t2» t = table a:t@«t»",
		"a «i»-«i2» i = column a:t.i@«t»",
		"a «f»-«f2» f = ?",
		"a «k»-«k2» k = ?",
		"a «t3»-«t4» t = table a:t@«t»",
	)
}

func TestUsesOfFunctions(t *testing.T) { // P11.2
	x := newExample(
		"fun «f»f«f2»(«x»x«x2»: T«x3», «y»y«y2»: [U] = «g1»g(«x4»x«x5»)«g2»«y3», «z»z«z2»): U =\n"+
			"«bh»b.h(size(«x6»x«x7»), «fy»f(«y4»y«y5», «h»h()«h2», «t»t«t2»)«fy2»)«bh2»\n"+
			"fun «g»g«g3»() = «bp»b.p()«bp2» + «ag»a.g(«as»a.size(1)«as2»)«ag2»",
		"proc «p»p«p2»() = «ins»insert t «bs»b.sort(sort(1))«bs2»«ins2»\n"+
			"fun «bh3»h«bh4»() = 1 fun «sort»sort«sort2»(«v»v«v2») = «v3»v«v4» type «T»T«T2» = D«D»",
	)
	checkList(t, x, "Uses", Uses(x.ms), showUse,
		"a «f»-«f2» f = fun a:f@«f»",
		"a «x»-«x2» x = param a:f.x@«x»",
		"a «x»-«x3» T = type b:T@«T»",
		"a «y»-«y2» y = param a:f.y@«y»",
		"a «y»-«y3» U = ?",
		"a «g1»-«g2» g = fun a:g@«g»",
		"a «x4»-«x5» x = ?", // no parameter is in scope in a default
		"a «z»-«z2» z = param a:f.z@«z»",
		"a «f»-«f2» U = ?",
		"a «bh»-«bh2» h = fun b:h@«bh3»",
		"a «x6»-«x7» x = param a:f.x@«x»",
		"a «fy»-«fy2» f = fun a:f@«f»",
		"a «y4»-«y5» y = param a:f.y@«y»",
		"a «h»-«h2» h = ?",
		"a «t»-«t2» t = ?",
		"a «g»-«g3» g = fun a:g@«g»",
		"a «bp»-«bp2» b.p = ?", // a procedure cannot be called
		"a «ag»-«ag2» g = fun a:g@«g»",
		"a «as»-«as2» a.size = ?",
		"b «p»-«p2» p = proc b:p@«p»",
		"b «ins»-«ins2» t = ?",
		"b «bs»-«bs2» sort = fun b:sort@«sort»",
		"b «bh3»-«bh4» h = fun b:h@«bh3»",
		"b «sort»-«sort2» sort = fun b:sort@«sort»",
		"b «v»-«v2» v = param b:sort.v@«v»",
		"b «v3»-«v4» v = param b:sort.v@«v»",
		"b «T»-«T2» T = type b:T@«T»",
		"b «T»-«T2» D = ctor b:T.D@«T»",
	)
}

func TestUsesOfStatements(t *testing.T) { // P11.2
	x := newExample(
		"proc «p»p«p2»(«x»x«x2») = «i»insert t «x3»x«x4»«i2»; «d»delete u as x where «x5»x«x6»«d2»;\n" +
			"«u»update t as z where «z»z«z2».i < «x7»x«x8» set { «z3»z«z4» with i = «z5»z«z6», z = 1 }«u2»\n" +
			"table «t»t«t2» { } key(i)",
	)
	checkList(t, x, "Uses", Uses(x.ms), showUse,
		"a «p»-«p2» p = proc a:p@«p»",
		"a «x»-«x2» x = param a:p.x@«x»",
		"a «i»-«i2» t = table a:t@«t»",
		"a «x3»-«x4» x = param a:p.x@«x»",
		"a «d»-«d2» u = ?",
		"a «d»-«d2» x = local a:p.x@«d»",
		"a «x5»-«x6» x = local a:p.x@«d»",
		"a «u»-«u2» t = table a:t@«t»",
		"a «u»-«u2» z = local a:p.z@«u»",
		"a «z»-«z2» z = local a:p.z@«u»",
		"a «x7»-«x8» x = param a:p.x@«x»",
		"a «z3»-«z4» z = local a:p.z@«u»",
		"a «z5»-«z6» z = local a:p.z@«u»",
		"a «t»-«t2» t = table a:t@«t»",
		"a «t»-«t2» i = ?",
	)
}

func TestUsesOfExpressions(t *testing.T) { // P11.2
	x := newExample(
		"fun «f»f«f2»(«x»x«x2») = «match»match «x3»x«x4» { A -> «x5»x«x6», B(x) -> «x7»x«x8», E(y) ->\n" +
			"«comp»[«o»o«o2» | x <- «x9»x«xa», «xb»x«xc», o <- «y»y«y2», «xd»x«xe» + «ob»o«oc», x <- «xf»x«xg», «xh»x«xi»]«comp2» }«match2»\n" +
			"fun «g»g«g2»() = «let»let a = «a»a«a2» in «let2»let a = «a3»a«a4» in «a5»a«a6».a«let3»\n" +
			"type «T»T«T2» = A | B fun «h»h«h2»() = «mA»A(«mB»B«mB2»)«mA2»",
	)
	checkList(t, x, "Uses", Uses(x.ms), showUse,
		"a «f»-«f2» f = fun a:f@«f»",
		"a «x»-«x2» x = param a:f.x@«x»",
		"a «x3»-«x4» x = param a:f.x@«x»",
		"a «match»-«match2» A = ctor a:T.A@«T»",
		"a «x5»-«x6» x = param a:f.x@«x»",
		"a «match»-«match2» B = ctor a:T.B@«T»",
		"a «match»-«match2» x = local a:f.x@«x8»",
		"a «x7»-«x8» x = local a:f.x@«x8»",
		"a «match»-«match2» E = ?",
		"a «match»-«match2» y = local a:f.y@«comp2»",
		"a «x9»-«xa» x = param a:f.x@«x»",
		"a «comp»-«comp2» x = local a:f.x@«xa»",
		"a «xb»-«xc» x = local a:f.x@«xa»",
		"a «y»-«y2» y = local a:f.y@«comp2»",
		"a «comp»-«comp2» o = local a:f.o@«y2»",
		"a «xd»-«xe» x = local a:f.x@«xa»",
		"a «ob»-«oc» o = local a:f.o@«y2»",
		"a «xf»-«xg» x = local a:f.x@«xa»",
		"a «comp»-«comp2» x = local a:f.x@«xg»",
		"a «xh»-«xi» x = local a:f.x@«xg»",
		"a «o»-«o2» o = local a:f.o@«y2»",
		"a «g»-«g2» g = fun a:g@«g»",
		"a «a»-«a2» a = ?",
		"a «let»-«let3» a = local a:g.a@«let»",
		"a «a3»-«a4» a = local a:g.a@«let»",
		"a «let2»-«let3» a = local a:g.a@«let2»",
		"a «a5»-«a6» a = local a:g.a@«let2»",
		"a «T»-«T2» T = type a:T@«T»",
		"a «T»-«T2» A = ctor a:T.A@«T»",
		"a «T»-«T2» B = ctor a:T.B@«T»",
		"a «h»-«h2» h = fun a:h@«h»",
		"a «mA»-«mA2» A = ctor a:T.A@«T»",
		"a «mB»-«mB2» B = ctor a:T.B@«T»",
	)
}
