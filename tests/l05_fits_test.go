package tests

import (
	"slices"
	"strconv"
	"strings"
	"testing"

	"loop.example/g00276/impl"
)

// typeFrom reads a type as a module has it.
func typeFrom(t *testing.T, s string) impl.Type {
	t.Helper()
	m := mustParse(t, "type x = "+s)
	if len(m.Defs) != 1 {
		t.Fatalf("the test's own type: %q", s)
	}
	return m.Defs[0].Type
}

func typesFrom(t *testing.T, list ...string) []impl.Type {
	t.Helper()
	var out []impl.Type
	for _, s := range list {
		out = append(out, typeFrom(t, s))
	}
	return out
}

// envFrom reads an environment of lines NAME = TYPE, as they stand, right or wrong.
func envFrom(t *testing.T, lines ...string) []impl.Named {
	t.Helper()
	var env []impl.Named
	for _, line := range lines {
		name, text, _ := strings.Cut(line, " = ")
		env = append(env, impl.Named{Name: name, Type: typeFrom(t, text)})
	}
	return env
}

func rightEnv(t *testing.T, lines ...string) []impl.Named {
	t.Helper()
	env := envFrom(t, lines...)
	if !impl.EnvOk(env) {
		t.Fatalf("the test's own environment: %q", lines)
	}
	return env
}

// numbered is an environment of so many names, in order.
func numbered(count int, of impl.Type) []impl.Named {
	var env []impl.Named
	for i := range count {
		env = append(env, impl.Named{Name: "n" + strconv.Itoa(1000+i), Type: of})
	}
	return env
}

func wantFits(t *testing.T, env []impl.Named, pairs ...string) {
	t.Helper()
	for i := 0; i < len(pairs); i += 2 {
		if !impl.Fits(env, typeFrom(t, pairs[i]), typeFrom(t, pairs[i+1])) {
			t.Errorf("%s does not fit %s", pairs[i], pairs[i+1])
		}
	}
}

func wantFitsNot(t *testing.T, env []impl.Named, pairs ...string) {
	t.Helper()
	for i := 0; i < len(pairs); i += 2 {
		if impl.Fits(env, typeFrom(t, pairs[i]), typeFrom(t, pairs[i+1])) {
			t.Errorf("%s fits %s", pairs[i], pairs[i+1])
		}
	}
}

func wantBoth(t *testing.T, env []impl.Named, pairs ...string) {
	t.Helper()
	for i := 0; i < len(pairs); i += 2 {
		a, b := typeFrom(t, pairs[i]), typeFrom(t, pairs[i+1])
		if !impl.Both(env, a, b) || !impl.Both(env, b, a) || !impl.Fits(env, a, b) || !impl.Fits(env, b, a) {
			t.Errorf("%s and %s do not fit each other", pairs[i], pairs[i+1])
		}
	}
}

func wantOpen(t *testing.T, env []impl.Named, from, want string) {
	t.Helper()
	if got := impl.Open(env, typeFrom(t, from)); impl.TypeText(got) != want {
		t.Errorf("Open of %s = %q, want %q", from, impl.TypeText(got), want)
	}
}

func wantField(t *testing.T, env []impl.Named, of, name, want string) {
	t.Helper()
	if got, ok := impl.FieldOf(env, typeFrom(t, of), name); !ok || impl.TypeText(got) != want {
		t.Errorf("FieldOf %s at %q = %q, %v, want %q", of, name, impl.TypeText(got), ok, want)
	}
}

func wantNoField(t *testing.T, env []impl.Named, of impl.Type, name string) {
	t.Helper()
	if got, ok := impl.FieldOf(env, of, name); ok || !isZeroType(got) {
		t.Errorf("FieldOf at %q gives %v, want the zero value and false", name, ok)
	}
}

func wantReach(t *testing.T, env []impl.Named, from impl.Type, want ...string) {
	t.Helper()
	if got := impl.Reach(env, from); !slices.Equal(got, want) {
		t.Errorf("Reach = %q, want %q", got, want)
	}
}

func TestConstantOfFits(t *testing.T) {
	if impl.MaxDefs != 60 {
		t.Error(impl.MaxDefs)
	}
}

func TestEnvironments(t *testing.T) {
	for _, env := range [][]impl.Named{
		nil,
		{},
		envFrom(t, "a = int"),
		envFrom(t, "a = a"),
		envFrom(t, "a = b", "b = nowhere | m.T"),
		envFrom(t, "A = any", "Z = text", "a = int", "a.B = int", "a.a = int", "a1 = int", "ab = {}", "b = () -> int"),
		envFrom(t, "abcdefghijkl = int", "abcdefghijkl.abcdefghijkl = int"),
		numbered(impl.MaxDefs, recordT("a", nameT("n1000"))),
		numbered(impl.MaxDefs-1, anyT),
	} {
		if !impl.EnvOk(env) {
			t.Errorf("refused: %v", env)
		}
	}
	for _, env := range [][]impl.Named{
		numbered(impl.MaxDefs+1, intT),
		numbered(500, intT),
		envFrom(t, "b = int", "a = int"),
		envFrom(t, "a = int", "a = int"),
		envFrom(t, "a = int", "b = int", "b = text"),
		envFrom(t, "a = int", "c = int", "b = int"),
		envFrom(t, "a = int", "B = int"),
		envFrom(t, "ab = int", "a.b = int"),
	} {
		if impl.EnvOk(env) {
			t.Errorf("accepted: %v", env)
		}
	}
}

func TestEnvironmentsOfWrongNamesAndTypes(t *testing.T) {
	for _, s := range append(slices.Clone(languageWords), wrongNames...) {
		if impl.EnvOk([]impl.Named{{Name: s, Type: intT}}) {
			t.Errorf("accepted with the name %q", s)
		}
	}
	for _, s := range languageWords {
		if impl.EnvOk([]impl.Named{{Name: "a." + s, Type: intT}}) || impl.EnvOk([]impl.Named{{Name: s + ".a", Type: intT}}) {
			t.Errorf("accepted with %q in a name", s)
		}
	}
	for _, c := range wrongTypes {
		if impl.EnvOk([]impl.Named{{Name: "a", Type: c.t}}) || impl.EnvOk([]impl.Named{{Name: "a", Type: intT}, {Name: "b", Type: fnT(c.t)}}) {
			t.Error("accepted with", c.what)
		}
	}
	for i, x := range withinItself() {
		if impl.EnvOk([]impl.Named{{Name: "a", Type: x}}) {
			t.Error("accepted with what is within itself", i)
		}
	}
}

func TestLookup(t *testing.T) {
	env := rightEnv(t, "A = B", "B = int | text", "a.A = {b: A}", "b = (A) -> b")
	for _, n := range env {
		if got, ok := impl.Lookup(env, n.Name); !ok || !sameType(got, n.Type) {
			t.Errorf("Lookup of %q = %v, %v", n.Name, got, ok)
		}
	}
	for _, name := range []string{"", "a", "C", "A ", "a.b", "a.", ".A", "int", "\xff"} {
		if got, ok := impl.Lookup(env, name); ok || !isZeroType(got) {
			t.Errorf("Lookup of %q = %v, %v", name, got, ok)
		}
		if got, ok := impl.Lookup(nil, name); ok || !isZeroType(got) {
			t.Errorf("Lookup of %q in nothing = %v, %v", name, got, ok)
		}
	}
	most := numbered(impl.MaxDefs, textT)
	for _, n := range most {
		if got, ok := impl.Lookup(most, n.Name); !ok || got.Kind != impl.TyText {
			t.Errorf("Lookup of %q = %v, %v", n.Name, got, ok)
		}
	}
}

// What stands in a list that is no environment is found all the same, as the document names no other answer.
func TestLookupInWhatIsNoEnvironment(t *testing.T) {
	env := []impl.Named{{Name: "c", Type: textT}, {Name: "a", Type: intT}, {Name: "", Type: boolT}, {Name: "a", Type: anyT}, {Name: "w", Type: unionT(textT, intT)}}
	for name, want := range map[string]impl.Type{"c": textT, "a": intT, "": boolT, "w": unionT(textT, intT)} {
		if got, ok := impl.Lookup(env, name); !ok || !sameType(got, want) {
			t.Errorf("Lookup of %q = %v, %v", name, got, ok)
		}
	}
	if got, ok := impl.Lookup(env, "b"); ok || !isZeroType(got) {
		t.Error(got, ok)
	}
	for i, x := range withinItself() {
		if got, ok := impl.Lookup([]impl.Named{{Name: "a", Type: x}}, "a"); !ok || !sameAllTheWay(listT(got), listT(x)) {
			t.Error("what is within itself is given as another one, or shared", i)
		}
	}
}

func TestLoops(t *testing.T) {
	env := rightEnv(t,
		"A = A",
		"B = C", "C = D", "D = B",
		"E = A",
		"F = E | int",
		"G = G | int",
		"H = {} | I", "I = H | int",
		"J = nowhere",
		"K = int | J",
		"L = {a: L}",
		"M = (M) -> M",
		"N = int | {a: N | A, b: nowhere}",
		"O = P", "P = Q | text", "Q = R | S", "R = {x: O}", "S = bool",
		"T = any",
		"U = (U) -> int | V", "V = () -> G",
		"W = Q | R | S",
		"m.A = m.B", "m.B = m.A",
		"m.C = L | m.D", "m.D = m.E", "m.E = int | text",
		"m.F = m.E | m.G",
	)
	loops := []string{"A", "B", "C", "D", "E", "F", "G", "H", "I", "J", "K", "m.A", "m.B", "m.F", "nowhere", "m.G", "m", "", "a", "int", "A.A"}
	for _, name := range loops {
		if !impl.Loops(env, name) {
			t.Errorf("%q is told", name)
		}
	}
	for _, n := range env {
		if !slices.Contains(loops, n.Name) && impl.Loops(env, n.Name) {
			t.Errorf("%q is not told", n.Name)
		}
	}
	for _, name := range []string{"", "a", "int", "\x00"} {
		if !impl.Loops(nil, name) {
			t.Errorf("%q is told by nothing", name)
		}
	}
}

// chain leads from each name to the next one, and from the last to some type.
func chain(count int, end impl.Type) []impl.Named {
	env := numbered(count, end)
	for i := range count - 1 {
		env[i].Type = nameT(env[i+1].Name)
	}
	return env
}

func TestLongWaysOfNames(t *testing.T) {
	for _, c := range []struct {
		end   impl.Type
		loops bool
		open  string
	}{
		{intT, false, "int"},
		{recordT("a", nameT("n1000")), false, "{a: n1000}"},
		{unionT(intT, textT), false, "int | text"},
		{nameT("n1000"), true, "any"},
		{nameT("n1059"), true, "any"},
		{unionT(intT, nameT("n1030")), true, "any"},
		{nameT("none"), true, "any"},
	} {
		env := chain(impl.MaxDefs, c.end)
		for _, n := range env {
			if impl.Loops(env, n.Name) != c.loops {
				t.Errorf("Loops of %s to %s", n.Name, impl.TypeText(c.end))
			}
			wantOpen(t, env, n.Name, c.open)
		}
	}
}

func TestOpen(t *testing.T) {
	env := rightEnv(t,
		"A = B", "B = int | text", "C = B | bool", "D = {a: D}", "E = D | C | int",
		"F = any", "G = G", "H = G | int", "I = nowhere", "J = () -> J", "K = L | M", "L = {a: int}", "M = {a: int}",
		"N = O | B", "O = text", "P = (B) -> B", "m.T = A", "m.U = m.T | m.V", "m.V = {u: m.U}",
	)
	for _, c := range [][2]string{
		{"int", "int"}, {"text", "text"}, {"bool", "bool"}, {"any", "any"}, {"{}", "{}"},
		{"{a: A, b: G, c: nowhere}", "{a: A, b: G, c: nowhere}"},
		{"(A) -> B", "(A) -> B"}, {"(G) -> nowhere", "(G) -> nowhere"},
		{"A", "int | text"}, {"B", "int | text"}, {"C", "bool | int | text"}, {"D", "{a: D}"},
		{"E", "bool | int | text | {a: D}"}, {"J", "() -> J"}, {"P", "(B) -> B"},
		{"F", "any"}, {"F | int", "any"}, {"F | D", "any"},
		{"G", "any"}, {"H", "any"}, {"I", "any"}, {"nowhere", "any"}, {"m.X", "any"}, {"m.A", "any"},
		{"G | int", "any"}, {"D | int | nowhere", "any"}, {"H | H", "any"},
		// unions within unions are one, and alike kids one kid
		{"A | bool", "bool | int | text"}, {"A | B", "int | text"}, {"A | int", "int | text"}, {"A | C | E", "bool | int | text | {a: D}"},
		{"N", "int | text"}, {"O | text", "text"}, {"O | O | N | text", "int | text"},
		{"K", "{a: int}"}, {"L | M", "{a: int}"}, {"L | {a: int}", "{a: int}"}, {"K | L | M", "{a: int}"},
		{"L | {a: O}", "{a: O} | {a: int}"}, {"{a: text} | {a: O}", "{a: O} | {a: text}"},
		{"J | int", "(() -> J) | int"}, {"J | P | B", "(() -> J) | ((B) -> B) | int | text"},
		{"m.T", "int | text"}, {"m.U", "int | text | {u: m.U}"}, {"m.U | A | m.V", "int | text | {u: m.U}"},
	} {
		wantOpen(t, env, c[0], c[1])
		again := impl.Open(env, impl.Open(env, typeFrom(t, c[0])))
		if impl.TypeText(again) != c[1] {
			t.Errorf("Open of Open of %s = %q", c[0], impl.TypeText(again))
		}
	}
	for _, c := range rightTypes {
		want := c.t
		if len(impl.TypeNames(c.t)) > 0 && (c.t.Kind == impl.TyName || c.t.Kind == impl.TyUnion) {
			want = anyT
		}
		if got := impl.Open(nil, c.t); !sameType(got, want) {
			t.Errorf("Open of %s by nothing = %q", c.text, impl.TypeText(got))
		}
	}
}

// A union with what is MaxDeep below itself would be too deep; that alone is not.
func TestOpenAtMaxDeep(t *testing.T) {
	wrap := func(x impl.Type) impl.Type { return recordT("a", x) }
	most, less := deepened(intT, impl.MaxDeep, wrap), deepened(intT, impl.MaxDeep-1, wrap)
	env := []impl.Named{{Name: "A", Type: most}, {Name: "B", Type: most}, {Name: "C", Type: less}, {Name: "D", Type: unionT(nameT("A"), nameT("B"))}, {Name: "E", Type: unionT(nameT("A"), intT)}}
	if !impl.EnvOk(env) {
		t.Fatal("the test's own environment")
	}
	for from, want := range map[string]impl.Type{
		"A": most, "A | B": most, "D": most, "A | D": most, "C": less,
		"A | int": anyT, "A | C": anyT, "A | B | C": anyT, "D | int": anyT, "E": anyT, "E | A": anyT, "E | int": anyT, "E | C": anyT,
		"C | int": unionT(intT, less),
	} {
		if got := impl.Open(env, typeFrom(t, from)); !sameType(got, want) {
			t.Errorf("Open of %s = %q", from, impl.TypeText(got))
		}
	}
	wantFits(t, env, "A | int", "text", "text", "A | int", "E", "bool", "A", "B", "D", "A", "A | B", "D")
	wantFitsNot(t, env, "A", "int", "D", "int", "C | int", "text", "C", "A", "A", "C")
	if got, ok := impl.FieldOf(env, typeFrom(t, "E"), "z"); !ok || got.Kind != impl.TyAny {
		t.Error("a field of what is too deep", got, ok)
	}
}

// The document names no other answer for types that are none, and lists that are no environment.
func TestOpenOfWhatIsWrong(t *testing.T) {
	for _, c := range wrongTypes {
		if c.t.Kind == impl.TyName || c.t.Kind == impl.TyUnion {
			continue
		}
		if got := impl.Open(nil, c.t); !sameType(got, c.t) {
			t.Error("Open of", c.what, "is another one")
		}
		if got := impl.Open(nil, unionT(intT, c.t)); !sameType(got, anyT) {
			t.Error("Open of a union with", c.what, "is not any")
		}
		env := []impl.Named{{Name: "A", Type: c.t}}
		if got := impl.Open(env, nameT("A")); !sameType(got, c.t) || impl.Loops(env, "A") {
			t.Error("Open of a name of", c.what)
		}
	}
	env := []impl.Named{{Name: "B", Type: textT}, {Name: "A", Type: nameT("B")}, {Name: "A", Type: boolT}, {Name: "", Type: nameT("A")}, {Name: "U", Type: unionT()}, {Name: "V", Type: unionT(nameT("A"), unionT(intT, unionT(nameT("B"))))}, {Name: "W", Type: unionT(unionT(nameT("V"), nameT("W")))}}
	for _, c := range []struct{ from, want impl.Type }{
		{nameT("A"), textT}, {nameT(""), textT}, {nameT("U"), anyT}, {nameT("V"), unionT(intT, textT)}, {nameT("W"), anyT},
		{unionT(), anyT}, {unionT(intT), intT}, {unionT(textT, intT), unionT(intT, textT)}, {unionT(intT, intT), intT}, {unionT(intT, anyT), anyT},
		{unionT(nameT("A"), unionT(boolT, unionT(nameT("V")))), unionT(boolT, intT, textT)}, {unionT(intT, unionT()), anyT}, {unionT(intT, nameT("U")), anyT},
	} {
		if got := impl.Open(env, c.from); !sameType(got, c.want) {
			t.Errorf("Open of %v = %v, want %v", c.from, got, c.want)
		}
	}
	for name, want := range map[string]bool{"A": false, "B": false, "": false, "U": false, "V": false, "W": true, "X": true} {
		if impl.Loops(env, name) != want {
			t.Errorf("Loops of %q", name)
		}
	}
}

func TestFitsOfPlainTypes(t *testing.T) {
	plain := []string{"int", "text", "bool", "{}", "() -> int", "(int) -> int"}
	for _, a := range plain {
		wantFits(t, nil, a, "any", "any", a, a, a)
		for _, b := range plain {
			if a != b {
				wantFitsNot(t, nil, a, b)
			}
		}
	}
	wantFits(t, nil, "any", "any")
	// any within is any for what stands there alone
	wantFits(t, nil, "{a: any}", "{a: int}", "{a: int}", "{a: any}", "(any) -> int", "(int) -> any", "(int) -> any", "(any) -> int")
	wantFitsNot(t, nil, "{a: any, b: int}", "{a: int, b: text}", "{}", "{a: any}", "() -> any", "(any) -> any")
}

func TestFitsOfRecords(t *testing.T) {
	wantFits(t, nil,
		"{a: int}", "{}", "{a: int, b: text}", "{a: int}", "{a: int, b: text}", "{b: text}", "{a: int, b: text, c: bool}", "{a: int, c: bool}",
		"{a: {b: int, c: int}}", "{a: {b: int}}", "{a: int}", "{a: int | text}", "{a: {b: int}, z: {}}", "{a: {} | int}",
		"{a: {b: {c: {d: int, e: int}}}}", "{a: {b: {c: {e: int}}}}")
	wantFitsNot(t, nil,
		"{}", "{a: int}", "{a: int}", "{b: int}", "{a: int}", "{a: int, b: int}", "{a: int}", "{a: text}", "{a: int | text}", "{a: int}",
		"{a: {b: int}}", "{a: {b: int, c: int}}", "{a: int, b: text}", "{a: text, b: text}", "{a: int, b: text}", "{a: int, b: int}",
		"{A: int}", "{a: int}", "{}", "int", "int", "{}", "{}", "() -> int", "() -> int", "{}")
}

func TestFitsOfFunctions(t *testing.T) {
	wantFits(t, nil,
		"() -> int", "() -> (int | text)", "(int | text) -> bool", "(int) -> bool", "(int | text) -> int", "(text) -> (bool | int)",
		"({}) -> int", "({a: int}) -> int", "() -> {a: int}", "() -> {}",
		"(int, {}) -> {a: int}", "(int, {b: int}) -> {}", "((int) -> int) -> int", "((int | text) -> int) -> int",
		"() -> (int) -> int", "() -> (() -> int | (int) -> (int | bool))",
		"(((int) -> int) -> int) -> int", "(((int) -> int) -> int) -> int")
	wantFitsNot(t, nil,
		"() -> (int | text)", "() -> int", "(int) -> bool", "(int | text) -> bool", "({a: int}) -> int", "({}) -> int", "() -> {}", "() -> {a: int}",
		"() -> int", "(int) -> int", "(int) -> int", "() -> int", "(int, int) -> int", "(int) -> int", "(int) -> int", "(int, int) -> int",
		"(int, text) -> int", "(text, int) -> int", "(int) -> text", "(text) -> int", "(int, {b: int}) -> int", "(int, {b: int, c: int} | bool) -> int",
		"((int | text) -> int) -> int", "((int) -> int) -> int", "() -> int", "int", "int", "() -> int")
}

func TestFitsOfUnions(t *testing.T) {
	env := rightEnv(t, "A = int | text", "B = A | bool", "C = {a: A}", "D = C | A", "E = E | int")
	wantFits(t, env,
		"int", "int | text", "int | text", "text | int", "int | text", "bool | int | text", "A", "int | text", "int | text", "A", "A", "B",
		"A | bool", "B", "B", "A | bool", "int", "B", "B", "text | A | bool | {}",
		"{a: int}", "{a: int} | int", "{a: int, b: int}", "{b: int, c: int} | {a: int}", "{a: int} | {a: text}", "{a: int | text}", "{a: int} | {a: text}", "C",
		"D", "D | bool", "{a: int} | text", "D", "{a: text, b: {}}", "D", "{a: int} | {b: int}", "{}", "{a: int} | {a: text, b: int}", "{a: A}",
		"(A) -> int", "(int) -> A | bool", "((A) -> int) | int", "int | (int) -> int", "E", "bool", "{}", "E", "E", "E")
	wantFitsNot(t, env,
		"int | text", "int", "A", "int", "A", "int | bool", "B", "A", "B", "int | text", "A | bool", "A", "D", "A", "D", "C",
		"{a: int | text}", "{a: int} | {a: text}", "C", "{a: int} | {a: text}", "{}", "{a: int} | {b: int}", "{a: int} | {b: int}", "{a: int}",
		"bool", "D", "{a: bool}", "D", "{a: int} | bool", "D", "int | text", "bool | {}")
}

func TestFitsOfNames(t *testing.T) {
	env := rightEnv(t, "A = B", "B = m.C", "T = {a: m.T}", "m.C = int", "m.T = {a: A, b: n.T}", "n.T = text | A", "n.X = nowhere")
	wantBoth(t, env, "A", "int", "A", "B", "B", "m.C", "A", "m.C", "T", "{a: {a: int, b: int | text}}", "n.T", "text | int", "{x: A}", "{x: m.C}")
	wantFits(t, env, "T", "{a: {b: n.T}}", "m.T", "{a: int}", "A", "n.T", "(n.T) -> A", "(A) -> n.T")
	wantFitsNot(t, env, "A", "text", "m.T", "T", "T", "m.T", "n.T", "A", "{a: {b: n.T}}", "T", "(A) -> A", "(n.T) -> A")
	// what is never told is any
	wantBoth(t, env, "n.X", "int", "nowhere", "text", "n.X", "nowhere", "m.Nope", "T", "{a: n.X}", "{a: int}")
	wantBoth(t, nil, "A", "int", "A", "B", "{a: A}", "{a: B}", "A | int", "text")
	wantFitsNot(t, nil, "{a: A}", "{b: A}", "{a: A}", "int", "() -> A", "(A) -> A")
}

func TestFitsOfTypesWithinThemselves(t *testing.T) {
	env := rightEnv(t,
		"A = {next: A}", "B = {next: {next: B}}", "C = {next: C, v: int}", "D = {next: {next: D} | bool}",
		"E = {next: F}", "F = {next: G}", "G = {next: E}",
		"L = {a: int, next: L | bool}", "M = {a: int, b: text, next: M | bool}", "N = {a: int | text, next: N | bool | int}",
		"S = (S) -> int", "T = (T) -> (int | text)", "U = ((U) -> int) -> int",
		"V = () -> V", "W = () -> () -> W", "X = int | {x: X}", "Y = text | {x: Y} | int", "Z = (Z) -> Z",
	)
	wantBoth(t, env, "A", "A", "A", "B", "A", "{next: A}", "B", "{next: B}", "A", "{next: {next: {next: B}}}", "E", "F", "F", "G", "E", "A", "G", "B", "E", "B",
		"L", "{a: int, next: bool | {a: int, next: L | bool}}", "V", "W", "V", "() -> W", "W", "() -> V", "S", "U", "S", "(S) -> int", "Z", "(Z) -> Z", "Z", "((Z) -> Z) -> (Z) -> Z")
	wantFits(t, env, "C", "A", "C", "B", "C", "E", "A", "{}", "M", "L", "L", "N", "M", "N", "{a: int, next: bool}", "L", "X", "Y", "{x: {x: int}}", "X", "() -> M", "() -> L", "(L) -> M", "(M) -> L",
		"A", "{next: {next: {}}}", "B", "D", "A", "D", "C", "D")
	wantFitsNot(t, env, "A", "C", "B", "C", "D", "A", "D", "B", "L", "M", "N", "L", "Y", "X", "{x: {x: text}}", "X", "A", "V", "V", "A", "(M) -> M", "(L) -> L", "() -> L", "() -> M",
		"S", "T", "T", "S", "Z", "S", "A", "int", "{next: {}}", "A", "{}", "A")
}

// A parameter turns the question around: what leads back through one is asked both ways.
func TestFitsThroughParameters(t *testing.T) {
	env := rightEnv(t,
		"A = {f: (A) -> int}", "B = {f: (B) -> int, g: int}", "C = {f: (C) -> C}", "D = {f: (D) -> D, g: int}",
		"E = (F) -> int", "F = (E) -> int", "G = (G) -> int", "H = (int, H) -> H", "I = (int, I) -> I | int", "J = (int | text, J) -> J",
		"K = (() -> K) -> K",
	)
	wantBoth(t, env, "E", "F", "E", "G", "F", "G", "E", "(G) -> int", "K", "(() -> K) -> K")
	wantFits(t, env, "B", "{f: (B) -> int}", "{f: (A) -> int, g: int}", "A", "{f: ({}) -> int}", "A", "{f: ({}) -> int, g: int}", "B",
		"{f: ({}) -> int, g: int}", "A", "{f: ({}) -> D, g: int}", "D", "{f: (D) -> D}", "{f: (D) -> {}}", "H", "(int, H) -> (H | int)")
	// a B is no A, though it has more: its f wants a g, which an A need not have
	wantFitsNot(t, env, "B", "A", "D", "C", "A", "B", "C", "D", "I", "H", "H", "J", "J", "K", "A", "{f: (B) -> int}", "{f: (B) -> int, g: int}", "A",
		"{f: (A) -> int, g: int}", "B", "{f: (C) -> D, g: int}", "C", "{f: (C) -> C, g: int}", "D")
	wantFitsNot(t, env, "H", "I", "J", "H")
}

// cycle leads from each name to the next through a field, and from the last to the first.
func cycle(prefix string, length, deep int, end func(at int, x impl.Type) impl.Type) []impl.Named {
	var env []impl.Named
	name := func(i int) string { return prefix + strconv.Itoa(100+i%length) }
	for i := range length {
		x := end(i, nameT(name(i+1)))
		env = append(env, impl.Named{Name: name(i), Type: deepened(x, deep, func(x impl.Type) impl.Type { return recordT("n", x) })})
	}
	return env
}

func TestManyPairsAtOnce(t *testing.T) {
	field := func(_ int, x impl.Type) impl.Type { return recordT("n", x) }
	// 29 times 31 pairs are begun until one leads back
	env := append(cycle("a", 29, 0, field), cycle("b", 31, 0, field)...)
	for _, a := range []string{"a100", "a117", "a128", "b100", "b111"} {
		for _, b := range []string{"b100", "b130", "a100", "a101"} {
			wantBoth(t, env, a, b)
		}
	}
	// the same, but for one in the last place of one of them
	worse := append(cycle("a", 29, 0, field), cycle("b", 31, 0, func(at int, x impl.Type) impl.Type {
		if at == 30 {
			return recordT("m n", intT, x)
		}
		return recordT("n", x)
	})...)
	wantFits(t, worse, "b100", "a100", "b117", "a128")
	wantFitsNot(t, worse, "a100", "b100", "a128", "b117", "b100", "b101", "b101", "b100")
	// functions turn each step around, so that an odd cycle asks each pair both ways
	turn := func(_ int, x impl.Type) impl.Type { return fnT(x, intT) }
	env = append(cycle("a", 7, 0, turn), cycle("b", 52, 0, turn)...)
	wantBoth(t, env, "a100", "b100", "a103", "b117", "a101", "a102")
	// far more pairs than a way down from each to the next would have room for
	env = append(cycle("a", 29, impl.MaxDeep-1, field), cycle("b", 31, impl.MaxDeep-2, field)...)
	wantBoth(t, env, "a100", "b100")
}

// Each type has the next one twice: asked one behind the other they would come to 2 to the 29th questions.
func TestTypesThatDouble(t *testing.T) {
	for what, wrap := range map[string]func(x impl.Type) impl.Type{
		"fields":     func(x impl.Type) impl.Type { return recordT("a b", x, x) },
		"functions":  func(x impl.Type) impl.Type { return fnT(x, x) },
		"parameters": func(x impl.Type) impl.Type { return fnT(x, x, intT) },
		"unions":     func(x impl.Type) impl.Type { return unionT(fnT(x), recordT("a b", x, x)) },
		"alike ones": func(x impl.Type) impl.Type { return unionT(recordT("a b", x, x), recordT("a", x), recordT("b", x)) },
	} {
		for _, c := range []struct {
			a, b impl.Type
			fits bool
		}{{intT, intT, true}, {intT, textT, false}, {nameT("a100"), nameT("b100"), true}, {nameT("a100"), nameT("b101"), true}, {nameT("a100"), boolT, false}} {
			const each = 30
			var env []impl.Named
			for at, end := range map[string]impl.Type{"a": c.a, "b": c.b} {
				for i := range each {
					x := wrap(nameT(at + strconv.Itoa(101+i)))
					if i == each-1 {
						x = wrap(end)
					}
					env = append(env, impl.Named{Name: at + strconv.Itoa(100+i), Type: x})
				}
			}
			slices.SortFunc(env, func(a, b impl.Named) int { return strings.Compare(a.Name, b.Name) })
			if !impl.EnvOk(env) {
				t.Fatal("the test's own environment:", what)
			}
			if got := impl.Fits(env, nameT("a100"), nameT("b100")); got != c.fits {
				t.Errorf("%s to %s and %s: %v", what, impl.TypeText(c.a), impl.TypeText(c.b), got)
			}
		}
	}
}

// A pair that was begun and did not fit, and one that fitted only as long as that did, are asked again as if they
// had not been.
func TestPairsThatDidNotFitAreAskedAgain(t *testing.T) {
	env := rightEnv(t,
		"A = {n: A2, v: int}", "A2 = {n: A}", "A3 = {n: A2}",
		"B = {n: B2, v: text}", "B2 = {n: B}", "B3 = {n: B2}",
		"C = {n: A2, v: int} | {}",
		"P = {k: Q, v: int}", "Q = {k: P}", "R = {k: S, v: text} | {k: {}}", "S = {k: R} | {k: {k: int}}",
	)
	// B is tried ahead of {}, by its text, and with it each pair that leads back to A and B
	wantFits(t, env, "A", "B | {}", "{k: A}", "{k: B | {}}", "{k: A, l: A2}", "{k: B | {}, l: {}}", "A", "C", "{k: A2}", "{k: B2 | {}}")
	wantFitsNot(t, env,
		"A", "B", "A2", "B2", "A3", "B3",
		"{k: A, l: A}", "{k: B | {}, l: B}", "{k: A, l: A2}", "{k: B | {}, l: B2}", "{k: A, l: A3}", "{k: B | {}, l: B3}", "{k: A2, l: A}", "{k: B2 | {}, l: B}",
		"{k: A3, l: {m: A2}}", "{k: B3 | {}, l: {m: B2}}", "{k: A, l: A2, m: A3}", "{k: B | {}, l: B2 | {v: int}, m: {}}",
		"(A2) -> {k: A, l: A2}", "(A2) -> {k: B | {}, l: B2}", "{l: A2, m: A}", "{l: B2, m: B | {}}", "{j: A3, k: A, l: A2}", "{j: {} | B3, k: {} | B, l: B2}",
	)
	// what leans on one kid of a union takes the next one when that is gone
	wantFits(t, env, "P", "R", "Q", "S", "{k: Q, v: int}", "R", "{a: P, b: Q}", "{a: R, b: S}", "{a: Q, b: P}", "{a: S, b: R}")
	wantFitsNot(t, env, "P", "{k: S, v: text}", "Q", "{k: {k: S, v: text}}", "{a: P, b: P}", "{a: R, b: {k: S, v: text}}", "R", "P", "S", "Q")
}

func TestFitsOfWhatIsWrong(t *testing.T) {
	wrongEnvs := [][]impl.Named{
		numbered(impl.MaxDefs+1, intT), envFrom(t, "b = int", "a = int"), envFrom(t, "a = int", "a = int"), {{Name: "", Type: intT}}, {{Name: "let", Type: intT}}, {{Name: "a.b.c", Type: intT}},
		{{Name: "a", Type: unionT(textT, intT)}}, {{Name: "a", Type: impl.Type{Kind: 8}}}, {{Name: "a", Type: intT}, {Name: "b", Type: withinItself()[0]}},
	}
	for i, env := range wrongEnvs {
		for _, x := range listT(intT, anyT, nameT("a"), recordT("x", intT)) {
			if impl.Fits(env, x, x) || impl.Fits(env, x, anyT) || impl.Fits(env, anyT, x) || impl.Both(env, x, x) {
				t.Error("fits by what is no environment", i)
			}
			wantNoField(t, env, x, "x")
		}
		wantNoField(t, env, anyT, "a")
	}
	env := rightEnv(t, "a = int")
	var wrong []impl.Type
	for _, c := range wrongTypes {
		wrong = append(wrong, c.t, recordT("x", c.t), unionT(intT, c.t))
	}
	wrong = append(wrong, withinItself()...)
	for i, x := range wrong {
		for _, y := range listT(x, anyT, intT, nameT("a"), nameT("none"), recordT("")) {
			if impl.Fits(env, x, y) || impl.Fits(env, y, x) || impl.Both(env, x, y) || impl.Both(nil, y, x) {
				t.Error("what is no type fits", i)
			}
		}
		wantNoField(t, env, x, "x")
		wantNoField(t, nil, x, "")
	}
	if !impl.Fits(numbered(impl.MaxDefs, intT), nameT("n1059"), intT) {
		t.Error("MaxDefs are refused")
	}
}

func TestBothWantsEach(t *testing.T) {
	env := rightEnv(t, "L = {a: L}", "M = {a: M, b: int}")
	wantBoth(t, env, "int", "int", "any", "int", "L", "{a: L}", "M", "{b: int, a: {a: M, b: int}}", "(L) -> int", "({a: L}) -> int")
	for _, c := range [][2]string{{"int", "text"}, {"int", "int | text"}, {"M", "L"}, {"{a: int}", "{}"}, {"(L) -> int", "(M) -> int"}} {
		a, b := typeFrom(t, c[0]), typeFrom(t, c[1])
		if impl.Both(env, a, b) || impl.Both(env, b, a) {
			t.Error("both", c)
		}
	}
}

func TestFieldOf(t *testing.T) {
	env := rightEnv(t,
		"A = {a: int, next: A | bool}", "B = {a: text, b: A}", "C = A | B", "D = C | {a: any}", "E = E | int", "F = (int) -> int",
		"G = {f: F} | {f: int, g: G}", "H = {x: H} | {x: K}", "I = A | int", "J = J", "K = K | J", "M = N", "N = {m: M | N}", "m.T = B",
	)
	for _, c := range [][3]string{
		{"{a: int}", "a", "int"}, {"{a: int, b: any}", "b", "any"}, {"{a: A}", "a", "A"}, {"{a: int | A}", "a", "A | int"}, {"{a: nowhere}", "a", "nowhere"},
		{"A", "a", "int"}, {"A", "next", "A | bool"}, {"B", "b", "A"}, {"m.T", "b", "A"}, {"M", "m", "M | N"},
		{"C", "a", "int | text"}, {"A | {a: text}", "a", "int | text"}, {"D", "a", "any"}, {"G", "f", "F | int"}, {"H", "x", "H | K"}, {"A | B | C", "a", "int | text"},
		{"{a: A} | {a: A, b: int}", "a", "A"}, {"{a: int | text} | {a: bool | int}", "a", "bool | int | text"}, {"{a: F} | {a: {}}", "a", "F | {}"}, {"{f: () -> int} | {f: text}", "f", "(() -> int) | text"},
		{"{a: any} | {a: int}", "a", "any"},
		{"any", "a", "any"}, {"any", "", "any"}, {"any", "a.b", "any"}, {"any", "let", "any"},
		{"E", "a", "any"}, {"J", "x", "any"}, {"nowhere", "a", "any"}, {"m.U", "a", "any"}, {"A | E", "b", "any"}, {"int | nowhere", "a", "any"},
	} {
		wantField(t, env, c[0], c[1], c[2])
	}
	for _, c := range [][2]string{
		{"int", "a"}, {"text", ""}, {"bool", "x"}, {"() -> int", "a"}, {"({a: int}) -> {a: int}", "a"}, {"F", "a"}, {"{}", "a"}, {"{a: int}", "b"}, {"{a: int}", ""}, {"{a: int}", "A"},
		{"{a: {b: int}}", "b"}, {"{a: {b: int}}", "a.b"}, {"A", "b"}, {"C", "b"}, {"C", "next"}, {"D", "b"}, {"I", "a"}, {"G", "g"}, {"A | int", "a"}, {"A | F", "a"}, {"A | {}", "a"}, {"int | text", "a"},
		{"C", ""}, {"A", "a "},
	} {
		wantNoField(t, env, typeFrom(t, c[0]), c[1])
	}
	wantField(t, nil, "{a: A} | {a: B}", "a", "A | B")
	wantField(t, nil, "A", "a", "any")
	wantNoField(t, nil, recordT(""), "a")
}

func TestReach(t *testing.T) {
	env := rightEnv(t,
		"A = {a: B}", "B = (C) -> D | int", "C = text", "D = {x: m.T | A}", "E = E", "F = nowhere | E", "L = {next: L | bool}", "Z = {A: int, B: text}",
		"m.T = {t: m.T, u: n.U}", "n.V = A",
	)
	for _, c := range []struct{ from, want string }{
		{"int", ""}, {"any", ""}, {"{}", ""}, {"{A: int, B: text}", ""}, {"Z", "Z"},
		{"A", "A B C D m.T n.U"}, {"D", "A B C D m.T n.U"}, {"m.T", "m.T n.U"}, {"n.V", "A B C D m.T n.U n.V"}, {"C", "C"}, {"L", "L"}, {"{a: L | C, b: (L) -> Z}", "C L Z"},
		{"E", "E"}, {"F", "E F nowhere"}, {"nowhere", "nowhere"}, {"n.U", "n.U"}, {"(nowhere) -> A.A", "A.A nowhere"}, {"(Z, C) -> E | int", "C E Z"},
	} {
		wantReach(t, env, typeFrom(t, c.from), strings.Fields(c.want)...)
	}
	wantReach(t, nil, typeFrom(t, "(B, A) -> {a: B | m.A}"), "A", "B", "m.A")
	long := chain(impl.MaxDefs, unionT(intT, nameT("n1000")))
	var all []string
	for _, n := range long {
		all = append(all, n.Name)
	}
	for _, n := range long {
		wantReach(t, long, nameT(n.Name), all...)
	}
}

func TestReachOfWhatIsWrong(t *testing.T) {
	env := []impl.Named{{Name: "c", Type: unionT(nameT("z"), nameT("a"))}, {Name: "a", Type: nameT("")}, {Name: "a", Type: nameT("never")}, {Name: "", Type: fnT(nameT("a.b.c"), nameT("c"))}}
	wantReach(t, env, nameT("c"), "", "a", "a.b.c", "c", "z")
	wantReach(t, env, unionT(nameT("z"), nameT("y")), "y", "z")
	wantReach(t, env, impl.Type{Kind: 99, Name: "c", Kids: listT(nameT("let"))}, "let")
	for i, want := range [][]string{nil, {"b"}, {"T"}, nil, {"T"}, nil, nil} {
		x := withinItself()[i]
		wantReach(t, nil, x, want...)
		wantReach(t, []impl.Named{{Name: "A", Type: x}}, nameT("A"), append([]string{"A"}, want...)...)
	}
	many := numbered(3000, intT)
	for i := range many {
		many[i].Type = nameT(many[(i+1)%len(many)].Name)
	}
	if got := impl.Reach(many, nameT("n1000")); len(got) != len(many) || !slices.IsSorted(got) {
		t.Error("Reach in what is too long", len(got))
	}
}
