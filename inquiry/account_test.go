package inquiry_test

import (
	"slices"
	"strconv"
	"testing"

	"cloak/api"
	"cloak/crowd"
	"cloak/inquiry"
)

// story is what a coalition knows.
type story struct {
	keys   []api.Pass
	log    []int
	issued []api.Issue
	seen   []api.Sight
}

// account returns the account of a story.
func (x story) account() (api.Crowd, []int, api.Errno) {
	return inquiry.Account(x.keys, x.log, x.issued, x.seen)
}

// check checks that a story has the account of the definition, or its error, which it returns.
func (x story) check(t *testing.T) api.Errno {
	t.Helper()
	c, numbers, e := x.account()
	want, list, f := accounted(x.keys, x.log, x.issued, x.seen)
	if e != f || !same(c, want) || !slices.Equal(numbers, list) {
		t.Fatal(x, c, numbers, e, want, list, f)
	}
	if e == api.OK && !crowd.ValidCrowd(c) {
		t.Fatal(c)
	}
	return e
}

// pass returns a pass with a key.
func pass(name string, pub int, attrs ...string) api.Pass {
	return api.Pass{Name: name, Pub: pub, Attrs: attrs}
}

// issue returns an issuing of a ticket with a key.
func issue(key int, attrs ...int) api.Issue {
	return api.Issue{Key: key, Session: api.Session{Attrs: attrs}}
}

// sight returns a sight of a showing for a pass.
func sight(p api.Pass, text string, revoked []int, holder int) api.Sight {
	return api.Sight{Task: api.Task{Question: question(text), Most: 100, Passes: []api.Pass{p}, Revoked: revoked}, Holder: holder}
}

// P10.8: the document's example.
func TestAccountExample(t *testing.T) {
	id := pass("id", 4, "age")
	x := story{[]api.Pass{id}, nil, []api.Issue{issue(0, 9, 20), issue(0, 4, 17), issue(0, 9, 20)}, []api.Sight{sight(id, "id.age >= 18", nil, 0)}}
	c, numbers, e := x.account()
	want := api.Crowd{
		Questions: []api.Pred{{Kind: api.PrAll, Kids: []api.Pred{{Right: "id.age", C: -18}, {Left: "id.age", C: 100}}}},
		Members: []api.Member{
			{Binds: []api.Bind{{Name: "id.age", Value: 17}}, Tickets: []int{1}, Revoked: api.None},
			{Binds: []api.Bind{{Name: "id.age", Value: 20}}, Tickets: []int{2}, Revoked: api.None},
		},
		Uses: []api.Seen{{Holder: api.None}},
	}
	if e != api.OK || !same(c, want) || !slices.Equal(numbers, []int{4, 9}) {
		t.Error(c, numbers, e)
	}
}

// full returns a story with several keys of two passes.
func full() story {
	a, b, d := pass("id", 4, "zone", "age"), pass("id", 9, "zone", "age"), pass("bus", 4, "fee")
	old, cheap := "id.age >= 18", "bus.fee <= 3"
	twice := sight(b, old, []int{5}, 7)
	twice.Task.Question = "question other {id.age>=18} # written in another way"
	more := sight(a, old, []int{5, 9}, 0)
	more.Task.Most = 50
	listed := sight(a, old, nil, 0)
	listed.Record.Links = [][]api.Link{{}}
	return story{
		[]api.Pass{a, b, d}, []int{5, 9, 30},
		[]api.Issue{issue(0, 9, 3, 20), issue(1, 9, 3, 20, 4), issue(2, 9, 8, 77), issue(2, 7, 2), issue(0, 9, 3, 20)},
		[]api.Sight{sight(a, old, nil, 0), sight(d, cheap, []int{5, 9}, 9), twice, more, listed, sight(d, "0 <= 1", nil, 0)},
	}
}

// P10.8: members, tickets, questions and uses.
func TestAccount(t *testing.T) {
	c, numbers, e := full().account()
	if e != api.OK || !slices.Equal(numbers, []int{7, 9}) {
		t.Fatal(numbers, e)
	}
	members := []api.Member{
		{Binds: []api.Bind{{Name: "bus.fee", Value: 2}}, Tickets: []int{0, 0, 1}, Revoked: api.None},
		{Binds: []api.Bind{{Name: "bus.fee", Value: 8}, {Name: "id.age", Value: 20}, {Name: "id.zone", Value: 3}}, Tickets: []int{2, 1, 1}, Revoked: 1},
	}
	if !same(c.Members, members) {
		t.Error(c.Members)
	}
	uses := []api.Seen{
		{Question: 0, Window: 0, AsOf: 0, Holder: api.None}, {Question: 1, Window: 2, AsOf: 2, Holder: 1}, {Question: 0, Window: 1, AsOf: 1, Holder: 0},
		{Question: 2, Window: 0, AsOf: 2, Holder: api.None}, {Question: 0, Window: 0, AsOf: 0, Holder: api.None}, {Question: 3, Window: 2, AsOf: 0, Holder: api.None},
	}
	if !slices.Equal(c.Uses, uses) || len(c.Questions) != 4 {
		t.Error(c.Uses)
	}
	full().check(t)
}

// P10.8: predicates are the same question only if all of their parts are equal.
func TestQuestions(t *testing.T) {
	id := pass("id", 4, "age", "zone")
	texts := []string{
		"id.age <= id.zone or id.age <= 3", "id.age <= id.zone or id.zone <= 3", "id.age <= id.zone and id.age <= 3", "id.age <= id.zone or id.age <= 4",
		"id.age <= id.zone or 3 <= id.age", "id.age <= id.zone or 3 <= id.zone", "id.zone <= id.age or id.age <= 3", "id.age <= 3 or id.age <= id.zone",
		"at least 1 of ( id.age <= id.zone, id.age <= 3 )", "at least 2 of ( id.age <= id.zone, id.age <= 3 )", "at least 1 of ( id.age <= id.zone, id.age <= 3, id.age <= 3 )", "at least 1 of ( id.age <= id.zone )",
		"0 <= 1", "0 <= 2", "0 <= 1 and 0 <= 1", "0 <= 1 or 0 <= 1", "0 <= 1 and 0 <= 1 and 0 <= 1", "id.age <= id.age",
	}
	x := story{keys: []api.Pass{id}}
	for range 2 {
		for _, s := range texts {
			y, z := sight(id, s, nil, 0), sight(id, "not ( not ( "+s+" ) )", nil, 0)
			x.seen = append(x.seen, y, z)
		}
	}
	x.check(t)
	c, _, _ := x.account()
	if len(c.Questions) != len(texts) {
		t.Error(len(c.Questions))
	}
	for i, u := range c.Uses {
		if u.Question != i/2%len(texts) {
			t.Error(i, u)
		}
	}
	// With another Most it is another question, if it has names.
	for i, s := range texts {
		y, z := sight(id, s, nil, 0), sight(id, s, nil, 0)
		z.Task.Most--
		c, _, e := inquiry.Account(x.keys, nil, nil, []api.Sight{y, z})
		if n := len(c.Questions); e != api.OK || n != 2 && i < 12 || n != 1 && within(i, 12, 16) {
			t.Error(i, n)
		}
	}
}

// P10.8: what is nothing but keys, or a log, has an account without members.
func TestAccountOfNothing(t *testing.T) {
	c, numbers, e := inquiry.Account([]api.Pass{pass("id", 1)}, nil, nil, nil)
	if e != api.OK || !same(c, api.Crowd{}) || len(numbers) > 0 {
		t.Error(c, numbers, e)
	}
}

// P10.8: which passes are keys.
func TestKeys(t *testing.T) {
	id := pass("id", 4, "age", "zone")
	var many []api.Pass
	for i := range 17 {
		many = append(many, pass("id", i-3, "age"))
	}
	for i, c := range []struct {
		keys []api.Pass
		want bool
	}{
		{nil, false}, {[]api.Pass{{}}, false}, {[]api.Pass{id}, true}, {many[:16], true}, {many, false}, {[]api.Pass{id, id}, false},
		{[]api.Pass{id, pass("id", 5, "age", "zone")}, true},
		{[]api.Pass{id, pass("id", 4, "zone", "age")}, false},
		{[]api.Pass{id, pass("id", 5, "zone", "age")}, false},
		{[]api.Pass{id, pass("id", 5, "age")}, false},
		{[]api.Pass{id, pass("id", 5)}, false},
		{[]api.Pass{id, pass("lib", 4, "age")}, true},
		{[]api.Pass{id, pass("lib", 4, "age"), pass("id", 6, "age", "zone"), pass("lib", 4, "age")}, false},
		{[]api.Pass{id, pass("lib", 4, "age"), pass("id", 6, "age", "zone"), pass("lib", 6, "age")}, true},
		{[]api.Pass{{Name: "id", Pub: 4, Guests: []int{4, 4}}}, true},
		{[]api.Pass{pass("id", 4, "a", "b", "c", "d", "e")}, true},
		{[]api.Pass{pass("id", 4, "a", "b", "c", "d", "e", "f")}, false},
		{[]api.Pass{pass("id", 4, "a", "a")}, false},
		{[]api.Pass{pass("id", 4, "or")}, false},
		{[]api.Pass{pass("or", 4, "a")}, false},
		{[]api.Pass{pass("or", 4)}, true}, // a valid name, and no attribute
		{[]api.Pass{id, pass("", 4)}, false},
		{[]api.Pass{pass("a.b", 4)}, false},
	} {
		e := story{keys: c.keys}.check(t)
		if c.want && e != api.OK || !c.want && e != api.ErrArg {
			t.Error(i, e)
		}
	}
}

// P10.8: which lists are revocation logs.
func TestLogs(t *testing.T) {
	for i, c := range []struct {
		log  []int
		want bool
	}{
		{nil, true}, {[]int{1}, true}, {[]int{0}, false}, {[]int{-1}, false}, {[]int{5, 3, 4}, true}, {[]int{5, 3, 5}, false}, {[]int{3, 3}, false}, {[]int{1 << 62, 1}, true}, {[]int{1, 2, 0}, false},
		{numbersTo(17)[1:], true}, {numbersTo(18)[1:], false},
	} {
		e := story{keys: []api.Pass{pass("id", 1)}, log: c.log}.check(t)
		if c.want && e != api.OK || !c.want && e != api.ErrArg {
			t.Error(i, e)
		}
	}
}

// P10.8, P2: of the errors of keys, the log, issuings and sights the first one is returned, in their order.
func TestAccountErrors(t *testing.T) {
	good := full()
	fine, id, bus := good.issued[0], good.keys[0], good.keys[2]
	worst := api.Sight{Task: api.Task{Question: "?", Most: -1}, Holder: -1}
	ranged, few := sight(id, "id.age >= 18", nil, 0), sight(id, "id.age >= 18", []int{9}, 55)
	ranged.Task.Most = 65536
	ranged.Task.Passes, few.Task.Passes = nil, nil
	two, three, lists, linked := copied(few), copied(few), copied(few), copied(few)
	two.Task.Passes, three.Task.Passes = []api.Pass{id, id}, []api.Pass{id, bus, id}
	lists.Task.Passes, linked.Task.Passes = []api.Pass{id}, []api.Pass{id}
	lists.Record.Links, linked.Record.Links = [][]api.Link{{}, {}}, [][]api.Link{{{}}}
	var stranger []api.Sight
	for _, p := range []api.Pass{pass("id", 5, id.Attrs...), pass("Id", 4, id.Attrs...), pass("id", 4), pass("id", 4, "zone"), pass("id", 4, "age", "zone"), pass("bus", 9, "fee")} {
		stranger = append(stranger, sight(p, "id.age >= 18", []int{9}, 55))
	}
	check := func(what string, issued []api.Issue, seen []api.Sight, want api.Errno) {
		t.Helper()
		if e := (story{good.keys, good.log, append(slices.Clone(good.issued), issued...), seen}).check(t); e != want {
			t.Error(what, e)
		}
	}
	for _, x := range []story{{nil, nil, good.issued, good.seen}, {good.keys, []int{0}, good.issued, good.seen}, {nil, nil, nil, []api.Sight{worst}}} {
		if e := x.check(t); e != api.ErrArg {
			t.Error(e)
		}
	}
	for _, key := range []int{-1, 3, 1 << 62} {
		check("key", []api.Issue{issue(key, -1, -1, -1)}, []api.Sight{worst}, api.ErrArg)
	}
	check("few values", []api.Issue{issue(0, 9, -1)}, []api.Sight{worst}, api.ErrArg)
	check("value", []api.Issue{issue(0, -9, 3, 65536)}, []api.Sight{worst}, api.ErrRange)
	check("value", []api.Issue{issue(0, 9, -1, 20)}, []api.Sight{worst}, api.ErrRange)
	for _, number := range []int{0, -1, -1 << 62} {
		check("holder", []api.Issue{issue(0, number, 3, 20)}, []api.Sight{worst}, api.ErrArg)
	}
	check("another value", []api.Issue{issue(1, 9, 3, 21)}, []api.Sight{worst}, api.ErrFork)
	check("another value", []api.Issue{issue(1, 9, 4, 20)}, nil, api.ErrFork)
	check("another value", []api.Issue{issue(2, 9, 9)}, nil, api.ErrFork)
	check("another value of a name of the other pass", []api.Issue{issue(0, 7, 1, 1)}, nil, api.OK)
	check("the same values of another holder", []api.Issue{issue(0, 8, 3, 20)}, nil, api.OK)
	check("the first of two", []api.Issue{issue(0, 9, 4, 20), issue(0, 0, 3, 20)}, nil, api.ErrFork)
	check("the first of two", []api.Issue{issue(0, 0, 3, 20), issue(0, 9, 4, 20)}, nil, api.ErrArg)
	check("question", nil, []api.Sight{worst}, api.ErrToken)
	check("most", nil, []api.Sight{ranged}, api.ErrRange)
	for _, x := range []api.Sight{few, two, three, lists, linked} {
		check("form", nil, []api.Sight{x}, api.ErrForm)
	}
	for _, x := range stranger {
		check("pass", []api.Issue{fine}, []api.Sight{x}, api.ErrNone)
	}
	guests := sight(id, "id.age >= 18", nil, 0)
	guests.Task.Passes[0].Guests = []int{3}
	check("guests", nil, []api.Sight{guests}, api.OK)
	for _, l := range [][]int{{9}, {5, 30}, {5, 9, 30, 7}, {5, 9, 30, 30}, {9, 5}, {0}, {5, 9, 31}} {
		check("log", nil, []api.Sight{sight(id, "id.age >= 18", l, 55)}, api.ErrStale)
	}
	check("log", nil, []api.Sight{sight(id, "id.age >= 18", good.log, 9)}, api.OK)
	for _, number := range []int{55, 8, -1, 1, 1 << 62, -9} {
		check("member", nil, []api.Sight{sight(id, "id.age >= 18", nil, number)}, api.ErrOwner)
	}
	check("the first of two", nil, []api.Sight{sight(id, "id.age >= 18", nil, 55), worst}, api.ErrOwner)
	check("the first of two", nil, []api.Sight{sight(id, "id.age >= 18", nil, 9), few, worst}, api.ErrForm)
}

// P10.8: as many holders, tickets, questions and sights as there may be, and one more.
func TestAccountLimits(t *testing.T) {
	id := pass("id", 4, "age")
	keys := []api.Pass{id, pass("id", 5, "age")}
	check := func(x story, want api.Errno) {
		t.Helper()
		c, numbers, e := x.account()
		if e != want || e != api.OK && (!same(c, api.Crowd{}) || len(numbers) > 0) || e == api.OK && !crowd.ValidCrowd(c) {
			t.Error(len(numbers), e)
		}
	}
	var holders []api.Issue
	for i := range 65 {
		holders = append(holders, issue(i%2, 1000-i, 5))
	}
	check(story{keys: keys, issued: holders[:64]}, api.OK)
	check(story{keys: keys, issued: append(slices.Repeat(holders[:64], 3), issue(0, 1000, 5))}, api.OK)
	check(story{keys: keys, issued: holders}, api.ErrFull)
	check(story{keys: keys, issued: append(holders, issue(9))}, api.ErrFull)
	check(story{keys: keys, issued: append(holders[:64:64], issue(0, 1, 70000))}, api.ErrRange)
	check(story{keys: keys, issued: append(holders[:64:64], issue(0, 0, 5))}, api.ErrArg)

	many := slices.Repeat([]api.Issue{issue(0, 7, 5)}, 4097)
	check(story{keys: keys, issued: many[:4096]}, api.OK)
	check(story{keys: keys, issued: slices.Concat(many[:4096], slices.Repeat([]api.Issue{issue(1, 7, 5), issue(0, 8, 6)}, 4096))}, api.OK)
	check(story{keys: keys, issued: many}, api.ErrFull)
	check(story{keys: keys, issued: append(many[:4096:4096], issue(0, 7, 6))}, api.ErrFork)
	check(story{keys: keys, issued: append(many, issue(0, 7, 6))}, api.ErrFull)

	var seen []api.Sight
	for i := range 129 {
		seen = append(seen, sight(id, "id.age >= "+strconv.Itoa(i), nil, 0))
	}
	check(story{keys: keys, seen: seen[:128]}, api.OK)
	check(story{keys: keys, seen: seen}, api.ErrFull)
	check(story{keys: keys, seen: append(seen[:128:128], seen[:128]...)}, api.OK)
	check(story{keys: keys, seen: append(seen[:128:128], sight(id, "0 <= 1", nil, 3))}, api.ErrOwner)
	check(story{keys: keys, seen: append(seen[:128:128], sight(id, "0 <= 1", nil, 0))}, api.ErrFull)

	uses := slices.Repeat(seen[:128], 32)
	check(story{keys: keys, seen: uses}, api.OK)
	check(story{keys: keys, seen: append(uses, seen[0])}, api.ErrFull)
	check(story{keys: keys, seen: append(uses, sight(id, "id.age >= 0", []int{1}, 0))}, api.ErrStale)
	c, _, _ := story{keys: keys, issued: holders[:64], seen: uses}.account()
	if len(c.Uses) != 4096 || len(c.Questions) != 128 || len(c.Members) != 64 || c.Uses[4095] != (api.Seen{Question: 127, Holder: api.None}) {
		t.Error(len(c.Uses), len(c.Questions), len(c.Members))
	}
}

// anyStory returns a story without errors, at random.
func (w *world) anyStory() story {
	x := story{keys: []api.Pass{w.id(0), w.lib(0), w.id(1), w.lib(1), w.id(2)}}
	w.Shuffle(len(x.keys), func(i, k int) { x.keys[i], x.keys[k] = x.keys[k], x.keys[i] })
	x.keys = x.keys[:1+w.IntN(len(x.keys))]
	known := map[int]bool{}
	for range w.IntN(12) {
		number := 1 + w.IntN(6)
		known[number] = true
		x.issued = append(x.issued, w.anyIssue(x.keys, number))
	}
	for _, n := range w.Perm(8)[:w.IntN(5)] {
		x.log = append(x.log, n+1)
	}
	for range w.IntN(6) {
		y := w.anySight(x)
		if n := 1 + w.IntN(6); known[n] && w.IntN(4) == 0 {
			y.Holder = n
		}
		x.seen = append(x.seen, y)
	}
	return x
}

// anyIssue returns an issuing to a holder with one of some keys. The attributes follow from the number.
func (w *world) anyIssue(keys []api.Pass, number int) api.Issue {
	key := w.IntN(len(keys))
	if keys[key].Name == "lib" {
		return issue(key, number, 3*number%5, 0)
	}
	return issue(key, number, 7*number%20, number%3)
}

// anySight returns a sight of a showing that was not opened.
func (w *world) anySight(x story) api.Sight {
	p := x.keys[w.IntN(len(x.keys))]
	l := []string{"id.age >= 9", "id.age <= id.zone + 5", "id.zone = 1 or id.age = 7", "id.age in { 1 .. 5, 7 }", "not id.zone = 2", "0 <= 1"}
	if p.Name == "lib" {
		l = []string{"lib.fee <= 2", "lib.fee != 3", "0 <= 1", "1 <= 0"}
	}
	y := sight(p, l[w.IntN(len(l))], x.log[:w.IntN(len(x.log)+1)], 0)
	y.Task.Most = []int{12, 100}[w.IntN(2)]
	return y
}

// P10.8: any stories, also with something wrong, have the account of the definition.
func TestAccountAny(t *testing.T) {
	w := middle()
	errors := map[api.Errno]int{}
	for i := range 6000 {
		x := w.anyStory()
		if i%3 > 0 {
			for range 1 + w.IntN(3) {
				spoil(w.Rand, &x.issued)
				spoil(w.Rand, &x.seen)
			}
		}
		if i%30 == 1 {
			spoil(w.Rand, &x.keys)
			spoil(w.Rand, &x.log)
		}
		e := x.check(t)
		if i%3 == 0 && e != api.OK {
			t.Fatal(x, e)
		}
		errors[e]++
	}
	for _, e := range []api.Errno{api.OK, api.ErrArg, api.ErrRange, api.ErrFork, api.ErrSyntax, api.ErrForm, api.ErrNone, api.ErrStale, api.ErrOwner} {
		if errors[e] < 10 {
			t.Error(e, errors[e])
		}
	}
}

// P10.8: the order of the issuings has no effect.
func TestOrderOfIssuings(t *testing.T) {
	w := middle()
	for range 500 {
		x := w.anyStory()
		c, numbers, _ := x.account()
		w.Shuffle(len(x.issued), func(i, k int) { x.issued[i], x.issued[k] = x.issued[k], x.issued[i] })
		d, list, e := x.account()
		if e != api.OK || !same(c, d) || !slices.Equal(numbers, list) {
			t.Fatal(x, c, d)
		}
	}
}

// setsOf returns the numbers of the possible holders of each sight of a story.
func setsOf(t *testing.T, x story) [][]int {
	t.Helper()
	c, numbers, e := x.account()
	if e != api.OK {
		t.Fatal(x, e)
	}
	var sets [][]int
	for _, l := range crowd.Sets(c) {
		var set []int
		for _, m := range l {
			set = append(set, numbers[m])
		}
		sets = append(sets, set)
	}
	return sets
}

// subset reports whether all elements of a list are in another one.
func subset(a, b []int) bool {
	return !slices.ContainsFunc(a, func(n int) bool { return !slices.Contains(b, n) })
}

// P10.16: a further issuing makes no set of possible holders smaller, a further sight makes none larger.
func TestFurther(t *testing.T) {
	w := middle()
	larger, smaller := 0, 0
	for range 2000 {
		x := w.anyStory()
		sets := setsOf(t, x)
		y, z := x, x
		y.issued = append(slices.Clone(x.issued), w.anyIssue(x.keys, 1+w.IntN(8)))
		z.seen = append(slices.Clone(x.seen), w.anySight(x))
		issued, seen := setsOf(t, y), setsOf(t, z)
		for i, set := range sets {
			if !subset(set, issued[i]) || !subset(seen[i], set) {
				t.Fatal(x, i)
			}
			if len(issued[i]) > len(set) {
				larger++
			}
			if len(seen[i]) < len(set) {
				smaller++
			}
		}
	}
	if larger < 100 || smaller < 100 {
		t.Error(larger, smaller)
	}
}
