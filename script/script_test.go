package script_test

import (
	"fmt"
	"math/rand"
	"slices"
	"strings"
	"testing"

	"bogie/api"
	"bogie/depot"
	"bogie/disk"
	"bogie/record"
	"bogie/report"
	"bogie/sample"
	"bogie/script"
	"bogie/sign"
)

// run returns the lines of a script without an error.
func run(t *testing.T, text string) []string {
	t.Helper()
	s, err, at := script.Run(text)
	if err != api.OK || at != 0 {
		t.Fatalf("%s: %d at %d", text, err, at)
	}
	return strings.Split(strings.TrimSuffix(s, "\n"), "\n")
}

// expect checks the lines of a script, each of which stands behind its command.
func expect(t *testing.T, pairs ...string) {
	t.Helper()
	var commands, want []string
	for i := 0; i < len(pairs); i += 2 {
		commands, want = append(commands, pairs[i]), append(want, pairs[i+1])
	}
	got := run(t, strings.Join(commands, ";\n")+";")
	for i := range want {
		if i >= len(got) || got[i] != want[i] {
			t.Errorf("%s: %q, not %q", commands[i], got[i], want[i])
		}
	}
	if len(got) != len(want) {
		t.Error(got)
	}
}

func made(part, kind string) string { return `"sure\nmake 0 ` + part + ` ` + kind + `\n"` }

const kinds = `catalog "kind axle; kind motor; vehicle coach (m: motor + axle);"`

func TestExamples(t *testing.T) { // P54.1
	expect(t, `catalog "vehicle coach;"`, "catalog: ok", "open 1", "open 1: ok", "report 0 at 0 "+made("v1", "coach"), "report 0: record 1", "verdict 0 v1 5", "verdict 0: released")
	expect(t, "verdict 0 v1 5", "verdict 0: error 5")
	if s, err, at := script.Run("send 0"); s != "" || err != api.ErrEnd || at != 6 {
		t.Error(s, err, at)
	}
	if s, err, at := script.Run(""); s != "" || err != api.OK || at != 0 {
		t.Error(s, err, at)
	}
}

func TestPreparations(t *testing.T) { // P54.1
	expect(t,
		"members 0", "members 0: error 1", "members 7", "members 7: error 1", "members 1", "members 1: ok", "members 006", "members 6: ok", `catalog "kind a; kind a;"`, "catalog: error 3", `damage "km +"`, "damage: error 9", `damage "km"`, "damage: ok",
		"permit coach m axle until 40001", "permit: error 1", "permit coach m axle with front until 40000", "permit: ok", "permit coach m axle until 0", "permit: ok",
		"duty d coach seen after 0 within 5", "duty: error 1", "duty d coach seen after 8 within 5", "duty: error 1", "duty d coach seen after 7 within 40001", "duty: error 1", "duty d coach seen after 1 within 40000", "duty: ok",
		"warranty axle Forge 40001 5 5", "warranty: error 1", "warranty axle Forge 5 5 101", "warranty: error 1", "warranty axle Forge 40000 9999999 100", "warranty: ok",
		"report 0 at 0 \"\"", "report 0: error 5", "crash 0", "crash 0: error 5", "due 0", "due 0: error 5", "compact 9", "compact 9: error 5",
		"open 0", "open 0: error 1", "open 4", "open 4: error 1", "open 3", "open 3: ok",
		"members 2", "members 2: error 5", kinds, "catalog: error 5", `damage "0"`, "damage: error 5", "permit a b c until 5", "permit: error 5", "duty d coach seen after 1 within 4", "duty: error 5", "warranty axle Forge 5 5 5", "warranty: error 5", "open 1", "open 1: error 5",
		"report 5 at 2 "+made("v1", "coach"), "report 5: record 1", "report 6 at 0 "+made("v1", "coach"), "report 6: error 1", "report 0 at 3 "+made("v1", "coach"), "report 0: error 1",
	)
	expect(t, "open 1", "open 1: ok", "report 1 at 0 "+made("v1", "coach"), "report 1: record 1", "report 2 at 0 "+made("v1", "coach"), "report 2: error 1", "verdict 0 v1 5", "verdict 0: none")
}

func TestRecords(t *testing.T) { // P54.1
	expect(t, kinds, "catalog: ok", "members 3", "members 3: ok", "warranty axle Forge 100 50 80", "warranty: ok", "open 1", "open 1: ok",
		"report 0 at 0 "+made("v1", "coach"), "report 0: record 1", "report 0 at 0 "+made("a", "axle"), "report 0: record 2", `report 0 at 0 "sure\nfit 1 a v1 m\n"`, "report 0: record 3", "verdict 0 v1 5", "verdict 0: fault 2/a/m",
		"correct 1 at 0 of 3 \"\"", "correct 1: record 4", "verdict 0 v1 5", "verdict 0: released", `correct 1 at 0 of 1 "perhaps\nmake 3 v1 coach\n"`, "correct 1: record 5", "verdict 0 v1 5", "verdict 0: fault 4/v1/",
		"correct 1 at 0 of 1 "+made("v1", "coach"), "correct 1: record 6", "rule 1 at 0 from 0 until 99 \"rule r for coach: has ok;\"", "rule 1: record 7", "verdict 0 v1 5", "verdict 0: fault 1/v1/r", "concede 1 at 0 v1 r until 5", "concede 1: record 8", "verdict 0 v1 5", "verdict 0: released", "verdict 0 v1 6", "verdict 0: fault 1/v1/r", "rule 1 at 0 from 6 until 99 \"rule r for coach: true;\" void", "rule 1: record 9", "verdict 0 v1 6", "verdict 0: released",
		"hold 2 at 0 v1 0 2", "hold 2: record 10", "move 0 v1 5", "move 0: error 22", "back 0 at 0 of 10", "back 0: record 11", "grounded 0 5", "grounded 0: v1", "back 2 at 0 of 10", "back 2: record 12", "grounded 0 5", "grounded 0: none", "move 0 v1 5", "move 0: ok",
		"recall 2 at 0 \"rule q for coach: true;\"", "recall 2: record 13", "move 0 v1 5", "move 0: error 5", "clear 2 at 0 of 13", "clear 2: record 14", "move 0 v1 5", "move 0: ok", "cost 2 at 0 a Rail 60 1001", "cost 2: record 15", "due 0", "due 0: Forge>Rail=801", "pay 2 at 0 Forge Rail 800", "pay 2: record 16", "due 0", "due 0: Forge>Rail=1", "compact 0", "compact 0: ok")
	expect(t, kinds, "catalog: ok", "open 2", "open 2: ok", "due 0", "due 0: none",
		"back 0 at 0 of 1", "back 0: error 2", "back 0 at 0 of 0", "back 0: error 2", "back 2 at 0 of 1", "back 2: error 1", "correct 0 at 2 of 1 \"x\"", "correct 0: error 1", "correct 0 at 0 of 1 \"x\"", "correct 0: error 2",
		"report 0 at 0 \"x\"", "report 0: error 8", "rule 0 at 0 from 0 until 5 \"rule r\"", "rule 0: error 9", "rule 0 at 0 from 6 until 5 \"rule r for coach: true;\"", "rule 0: error 1", "recall 0 at 0 \"x\"", "recall 0: error 1", "hold 0 at 0 v1 1 0", "hold 0: error 1", "hold 0 at 0 v1 60", "hold 0: error 1", "pay 0 at 0 a a 5", "pay 0: error 1", "pay 0 at 0 a b 0", "pay 0: error 1", "cost 0 at 0 a b 40001 5", "cost 0: error 1", "concede 0 at 0 a b until 40001", "concede 0: error 1",
		"report 0 at 1 "+made("v1", "coach"), "report 0: record 1", "correct 1 at 1 of 1 \"x\"", "correct 1: error 8", "verdict 0 v1 5", "verdict 0: fault 4/v1/", "verdict 1 v1 5", "verdict 1: released", "verdict 2 v1 5", "verdict 2: error 1", "move 2 v1 5", "move 2: error 1", "grounded 2 5", "grounded 2: error 1", "due 2", "due 2: error 1", "crash 2", "crash 2: error 1", "compact 2", "compact 2: error 1", "send 0 2", "send 0: error 1", "send 2 0", "send 2: error 1",
		"send 1 0", "send 1: 1", "verdict 0 v1 5", "verdict 0: released", "crash 0", "crash 0: ok", "verdict 0 v1 5", "verdict 0: released", "send 1 1", "send 1: 1")
}

func TestTwins(t *testing.T) { // P54.1
	begin := `catalog "kind axle; kind motor; vehicle coach (m: motor + axle; n: motor + axle);"; permit coach m axle with n until 9; permit coach n axle until 9; open 1; `
	begin += "report 0 at 0 " + made("v1", "coach") + "; report 0 at 0 " + made("a", "axle") + "; report 1 at 0 " + made("b", "axle") + `; report 1 at 0 "sure\nfit 2 a v1 m\n"; report 0 at 0 "sure\nfit 4 b v1 n\n"; `
	got := run(t, begin+"verdict 0 v1 3; verdict 0 v1 4; verdict 0 v1 9; verdict 0 v1 10;")
	if want := []string{"verdict 0: fault 2/a/m", "verdict 0: released", "verdict 0: released", "verdict 0: fault 2/a/m 2/b/n"}; !slices.Equal(got[len(got)-4:], want) {
		t.Error(got)
	}
}

func TestLimits(t *testing.T) { // P54.1
	text := kinds + ";open 1;"
	for i := range 9 { // a member can sign 8 records
		text += fmt.Sprintf(`report 0 at 0 "sure\nmake %d v1 coach\n";`, i)
	}
	got := run(t, text)
	if got[9] != "report 0: record 8" || got[10] != "report 0: error 1" {
		t.Error(got)
	}
	large := kinds + `;open 1;report 1 at 0 ` + made("v1", "coach") + ";"
	for i := range 12 {
		large += fmt.Sprintf(`report %d at 0 "perhaps\noverhaul %d v1\n";`, i%2, i+1)
	}
	if got := run(t, "members 2;"+large+"verdict 0 v1 50;grounded 0 50;"); got[len(got)-2] != "verdict 0: large" || got[len(got)-1] != "grounded 0: v1" {
		t.Error(got)
	}
	none := `catalog "vehicle coach;";open 1;report 0 at 0 ` + made("v1", "coach") + `;report 0 at 0 "sure\nremove 3 v1\n";verdict 0 v1 1;`
	if got := run(t, none); got[4] != "verdict 0: none" {
		t.Error(got)
	}
}

func TestErrors(t *testing.T) { // P54.1: BB1
	forty := strings.Repeat("open 1;", 40)
	for _, c := range []struct {
		text string
		err  api.Errno
		at   int
	}{
		{"send 0", api.ErrEnd, 6}, {"send", api.ErrEnd, 4}, {"send 0 1", api.ErrEnd, 8}, {"send 0 1;x", api.ErrSyntax, 9}, {"Send 0 1;", api.ErrSyntax, 0}, {";", api.ErrSyntax, 0}, {"5", api.ErrSyntax, 0}, {"send a 1;", api.ErrSyntax, 5}, {"send 0 1 2;", api.ErrSyntax, 9}, {"open 1;;", api.ErrSyntax, 7}, {"open \"1\";", api.ErrSyntax, 5},
		{"permit a b c with until 5;", api.ErrSyntax, 24}, {"permit a b c of 5;", api.ErrSyntax, 13}, {"permit a b until 5;", api.ErrSyntax, 17}, {"permit a b c with d", api.ErrEnd, 19}, {"permit until until until until 5;", api.OK, 0}, {"permit a b c with with until 5;", api.OK, 0},
		{"report 0 in 1", api.ErrSyntax, 9}, {"report 0 at 1 x;", api.ErrSyntax, 14}, {"rule 0 at 0 from 1 until 2 \"\" avoid;", api.ErrSyntax, 30}, {"rule 0 at 0 from 1 until 2 \"\" void void;", api.ErrSyntax, 35}, {"rule 0 at 0 from 1 until 2 \"\" void", api.ErrEnd, 34}, {"hold 0 at 0 v;", api.ErrSyntax, 13}, {"hold 0 at 0 v 1 2 x;", api.ErrSyntax, 18}, {"hold 0 at 0 v 1 2 3", api.ErrEnd, 19}, {"hold 0 at 0 v 1 2 3;", api.OK, 0}, {"correct 0 at 0 \"\";", api.ErrSyntax, 15}, {"duty a b c after 1;", api.ErrSyntax, 18},
		{"open 1 !", api.ErrChar, 7}, {"open 12345678;", api.ErrNumber, 5}, {strings.Repeat(" ", 20001), api.ErrLimit, -1}, {forty, api.OK, 0}, {forty + "open 1;", api.ErrLimit, 280}, {forty + "open", api.ErrLimit, 280}, {forty + "x", api.ErrSyntax, 280}, {forty + ";", api.ErrSyntax, 280}, {forty + "open !", api.ErrChar, 285},
	} {
		s, err, at := script.Run(c.text)
		if err != c.err || at != c.at || err != api.OK && s != "" {
			t.Errorf("%.40q: %d, %d", c.text, err, at)
		}
	}
	for _, shape := range []string{"members 1", `catalog ""`, `damage ""`, "permit a b c until 1", "permit a b c with d until 1", "duty a b c after 1 within 2", "warranty a b 1 2 3", "open 1", `report 0 at 0 ""`, `correct 0 at 0 of 1 ""`, `rule 0 at 0 from 1 until 2 ""`, `rule 0 at 0 from 1 until 2 "" void`, "concede 0 at 0 a b until 1", "hold 0 at 0 v 1", "hold 0 at 0 v 1 2", "back 0 at 0 of 1", `recall 0 at 0 ""`, "clear 0 at 0 of 1", "cost 0 at 0 a b 1 2", "pay 0 at 0 a b 1", "send 0 1", "crash 0", "compact 0", "verdict 0 v 1", "move 0 v 1", "grounded 0 1", "due 0"} {
		tokens := strings.Fields(shape)
		for n := range tokens { // each beginning ends too early
			text := strings.Join(tokens[:n+1], " ")
			if _, err, at := script.Run(text); err != api.ErrEnd || at != len(text) {
				t.Errorf("%q: %d, %d", text, err, at)
			}
			wrong := strings.Join(tokens[:n], " ") + " ="
			if _, err, at := script.Run(wrong); err != api.ErrSyntax || at != len(wrong)-1 {
				t.Errorf("%q: %d, %d", wrong, err, at)
			}
		}
		word, _, _ := strings.Cut(shape, " ")
		if got := run(t, shape+";"); len(got) != 1 || !strings.HasPrefix(got[0], word) {
			t.Error(shape, got)
		}
	}
}

// random returns the commands of a random script with two depots.
func random(r *rand.Rand) []string {
	l := []string{kinds, "members 3", "warranty axle Forge 100 50 80", "permit coach m axle until 20", "duty d coach seen after 1 within 9", "open 2"}
	records := 0
	for range 22 {
		m, d := r.Intn(3), r.Intn(2)
		of := fmt.Sprint(1 + r.Intn(records+1))
		at := fmt.Sprintf(" %d at %d ", m, d)
		e := []string{`make 0 v1 coach`, `make 0 a axle`, `fit 1 a v1 m`, `note 3 v1 seen \"x\"`, `run 4 v1 5 9 0 0 0 0`, `make 1 v2 coach`}[r.Intn(6)]
		records++
		switch r.Intn(12) {
		case 0, 1, 2, 3:
			l = append(l, "report"+at+`"`+[]string{"sure", "perhaps"}[r.Intn(8)/7]+`\n`+e+`\n"`)
		case 4:
			l = append(l, "correct"+at+"of "+of+` ""`)
		case 5:
			l = append(l, "rule"+at+`from 0 until 9 "rule r for coach: limit km 8;"`)
		case 6:
			l = append(l, "hold"+at+"v1 0 1")
		case 7:
			l = append(l, "back"+at+"of "+of)
		case 8:
			l = append(l, "recall"+at+`"rule q for axle: true;"`)
		case 9:
			l = append(l, "clear"+at+"of "+of)
		case 10:
			l = append(l, "cost"+at+"a Rail 5 100")
		default:
			l = append(l, fmt.Sprintf("send %d %d", d, 1-d))
		}
	}
	return l
}

// questions asks a depot for everything.
func questions(d int) []string {
	return []string{fmt.Sprintf("verdict %d v1 7", d), fmt.Sprintf("move %d v1 7", d), fmt.Sprintf("verdict %d v2 5", d), fmt.Sprintf("grounded %d 7", d), fmt.Sprintf("due %d", d)}
}

func each(seed int64, check func(r *rand.Rand, l []string)) {
	r := rand.New(rand.NewSource(seed))
	for range 25 {
		check(r, random(r))
	}
}

func lines(t *testing.T, l []string) []string { return run(t, strings.Join(l, ";")+";") }

func TestGaps(t *testing.T) { // P54.2
	each(1, func(_ *rand.Rand, l []string) {
		wide := slices.Clone(l)
		for i, c := range wide {
			before, text, found := strings.Cut(c, `"`) // what stands inside of strings stays
			wide[i] = strings.ReplaceAll(before, " ", " # ; \"\n\t")
			if found {
				wide[i] += `"` + text
			}
		}
		a, _, _ := script.Run(strings.Join(l, ";") + ";")
		b, err, _ := script.Run("# begin\n" + strings.Join(wide, "\n;# x\n") + " ; # end")
		if a != b || err != api.OK {
			t.Fatal(wide, err)
		}
	})
}

func TestBeginnings(t *testing.T) { // P54.3, P54.4 and P3
	each(2, func(r *rand.Rand, l []string) {
		all := lines(t, l)
		n := 1 + r.Intn(len(l))
		if got := lines(t, l[:n]); !slices.Equal(got, all[:n]) {
			t.Fatal(l, n)
		}
		for i, line := range all {
			word, _, _ := strings.Cut(l[i], " ")
			if !strings.HasPrefix(line, word+" ") && !strings.HasPrefix(line, word+":") {
				t.Fatal(l[i], line)
			}
		}
		if len(all) != len(l) || !slices.Equal(all, lines(t, l)) {
			t.Fatal(l, all)
		}
	})
}

// inserted returns the lines of a script with further commands, without those of these.
func inserted(t *testing.T, l, more []string, at int) []string {
	t.Helper()
	got := lines(t, slices.Insert(slices.Clone(l), at, more...))
	return slices.Delete(got, at, at+len(more))
}

func TestCrashesAndQuestions(t *testing.T) { // P54.5 and P54.6
	each(3, func(r *rand.Rand, l []string) {
		l = append(l, questions(r.Intn(2))...)
		all := lines(t, l)
		at := 6 + r.Intn(len(l)-6)
		if got := inserted(t, l, []string{"crash 0", "crash 1"}, at); !slices.Equal(got, all) {
			t.Fatal("crash:", l, at)
		}
		if got := inserted(t, l, questions(r.Intn(2)), at); !slices.Equal(got, all) {
			t.Fatal("questions:", l, at)
		}
		if got := inserted(t, l, []string{"compact 0", "compact 1"}, at); !slices.Equal(got, all) {
			t.Fatal("compact:", l, at)
		}
	})
}

func TestSendingAndHolds(t *testing.T) { // P54.7 and P54.8
	kinds := map[string]int{}
	each(4, func(_ *rand.Rand, l []string) {
		n := len(l) + 2
		got := lines(t, slices.Concat(l, []string{"send 0 1", "send 1 0"}, questions(0), questions(1)))
		for i := range 5 {
			a, b := got[n+i], got[n+5+i]
			if strings.Replace(a, " 0:", " 1:", 1) != b {
				t.Fatal(l, a, b)
			}
		}
		verdict, move := got[n], got[n+1]
		if (verdict == "verdict 0: released") != (move == "move 0: ok") {
			t.Fatal(l, verdict, move)
		}
		kinds[move]++
	})
	if len(kinds) < 2 {
		t.Error("too few cases:", kinds)
	}
}

// The records of a script are those that its numbers and clocks say: a depot that gets them gives the same answers.
func TestMade(t *testing.T) { // P54.1
	w := api.World{Setup: api.Setup{Catalog: sample.Catalog("kind axle; kind motor; vehicle coach (m: motor + axle);"), Damage: api.Formula{Op: api.FormNumber}}}
	for m := range 2 {
		key, _ := sign.Public(fmt.Sprint("member ", m), 3)
		w.Keys = append(w.Keys, key)
	}
	d, err := depot.Open(w, disk.New(4000))
	if err != api.OK {
		t.Fatal(err)
	}
	prev := map[int]string{}
	numbers := map[int]int{}
	for i, c := range []struct {
		author int
		r      api.Record
	}{{1, sample.ReportOf("make 0 v1 coach")}, {0, sample.ReportOf("make 1 v2 coach")}, {1, api.Record{Kind: api.RecHold, Name: "v2", Members: []int{0}}}} {
		r := c.r
		numbers[c.author]++
		r.Author, r.Number, r.Clock, r.Prev = c.author, numbers[c.author], i+1, prev[c.author]
		r, _ = record.Make(r, fmt.Sprint("member ", c.author), 3)
		prev[c.author] = record.Id(r)
		text, _ := record.Text(r)
		if err := d.Receive(text); err != api.OK {
			t.Fatal(i, err)
		}
	}
	v, _ := d.Verdict("v2", 5)
	want := fmt.Sprintf("verdict 0: fault 6/v2/%s", v.Faults[0].Name)
	a, _ := report.Text(sample.Report("make 0 v1 coach"))
	b, _ := report.Text(sample.Report("make 1 v2 coach"))
	quoted := func(s string) string { return `"` + strings.ReplaceAll(s, "\n", `\n`) + `"` }
	got := run(t, kinds+";open 1;report 1 at 0 "+quoted(a)+";report 0 at 0 "+quoted(b)+";back 0 at 0 of 7; hold 1 at 0 v2 0;verdict 0 v2 5;")
	if got[len(got)-1] != want {
		t.Error(got, want)
	}
}
