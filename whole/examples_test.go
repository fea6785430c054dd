package whole

import (
	"strings"
	"testing"

	"bogie/api"
	"bogie/release"
	"bogie/sample"
	"bogie/script"
)

// ask returns the results of the last commands of a script, as many as are wanted.
func ask(t *testing.T, text string, number int) []string {
	t.Helper()
	lines, err, at := script.Run(text)
	if err != api.OK {
		t.Fatal(err, at)
	}
	l := strings.Split(strings.TrimSpace(lines), "\n")
	var results []string
	for _, line := range l[len(l)-number:] {
		_, result, _ := strings.Cut(line, ": ")
		results = append(results, result)
	}
	for _, line := range l[:len(l)-number] {
		if strings.Contains(line, "error") {
			t.Fatal(line)
		}
	}
	return results
}

func expect(t *testing.T, got []string, want ...string) {
	t.Helper()
	for i := range want {
		if got[i] != want[i] {
			t.Errorf("%d: %q, not %q", i, got[i], want[i])
		}
	}
}

const kinds = `catalog "kind axle; kind wheelset (axle: axle); vehicle coach (front: wheelset);"; `

// sure returns the commands of reports of the members in turn.
func sure(events ...string) string {
	s := ""
	for i, e := range events {
		s += `report ` + string(rune('0'+i%3)) + ` at 0 "sure\n` + e + `\n"; `
	}
	return s
}

func TestRecallOfOneOfTwo(t *testing.T) { // P2, example 1
	begin := kinds + "members 3; open 1; " + sure("make 1 a axle", "make 1 b axle", "make 1 w wheelset", "make 1 c coach", "fit 5 w c front", `note 1 a batch \"A\"`) +
		`report 2 at 0 "sure\nfit 5 a w axle\nfit 5 b w axle\n"; recall 0 at 0 "rule q for axle: batch = \"A\";"; `
	expect(t, ask(t, begin+"verdict 0 c 4; verdict 0 c 5; grounded 0 6;", 3), "released", "fault 5/a/q", "c")
	expect(t, ask(t, begin+`report 1 at 0 "sure\nremove 6 b\n"; verdict 0 c 5; grounded 0 6;`, 2), "released", "none")
}

func TestUncertainKilometres(t *testing.T) { // P2, example 2
	l := sample.Reports("make 0 c coach; run 1 c 90 110 0 0 0 0")
	for rule, want := range map[string]int{"limit km 100": api.VerdictFault, "limit km 110": api.VerdictReleased} {
		v := release.Decide(sample.Setup(), api.Book{Rules: sample.Rules("rule r for coach: " + rule + ";")}, l, "c", 5)
		if v.Kind != want || want == api.VerdictReleased && (v.Proof.Op != api.StepHolds || len(v.Proof.Kids) != 0) {
			t.Error(rule, v)
		}
	}
}

func TestCorrectionOfThePast(t *testing.T) { // P2, example 3
	begin := kinds + "warranty axle Forge 100 50 80; members 3; open 1; " + sure("make 1 a axle", "make 1 w wheelset", "make 1 c coach", "fit 1 a w axle", "run 4 c 60 60 0 0 0 0")
	questions := "cost 2 at 0 a Rail 9 1000; verdict 0 c 5; due 0;"
	late := begin + `report 1 at 0 "sure\nfit 5 w c front\n"; correct 1 at 0 of 6 "sure\nfit 3 w c front\n"; ` + questions
	early := begin + `report 1 at 0 "sure\nfit 3 w c front\n"; ` + questions
	expect(t, ask(t, late, 2), ask(t, early, 2)...)
	expect(t, ask(t, late, 2), "released", "none")
	expect(t, ask(t, begin+`report 1 at 0 "sure\nfit 5 w c front\n"; `+questions, 2), "released", "Forge>Rail=800")
}

func TestTwoHolders(t *testing.T) { // P2, example 4
	begin := kinds + "open 2; " + `report 0 at 0 "sure\nmake 0 c coach\n"; hold 1 at 0 c 0 1; send 0 1; back 0 at 0 of 2; send 0 1; `
	expect(t, ask(t, begin+"move 0 c 5; move 1 c 5;", 2), "error 22", "error 22")
	expect(t, ask(t, begin+"back 1 at 1 of 2; move 0 c 5; move 1 c 5; send 1 0; move 0 c 5;", 4), "error 22", "ok", "4", "ok")
}

func TestOpenWarranty(t *testing.T) { // P2, example 5
	begin := kinds + "warranty axle Forge 100 50 80; members 3; open 1; " + sure("make 1 a axle", "make 1 w wheelset", "make 1 c coach", "fit 1 a w axle", "fit 1 w c front") +
		`report 2 at 0 "sure\nrun 4 c 40 40 0 0 0 0\nrun 4 c 60 60 0 0 0 0\n"; cost 1 at 0 a Rail 60 1000; `
	expect(t, ask(t, begin+"due 0;", 1), "none")
	expect(t, ask(t, begin+`correct 0 at 0 of 6 "sure\nrun 4 c 40 40 0 0 0 0\n"; due 0;`, 1), "Forge>Rail=800")
}
