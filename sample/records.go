package sample

import (
	"strconv"

	"bogie/api"
	"bogie/record"
	"bogie/sign"
)

// Height is that of the keys of all members of a journal.
const Height = 4

// Secret returns the secret of a member.
func Secret(member int) string { return "member " + strconv.Itoa(member) }

// Keys returns the public keys of some members.
func Keys(members int) []string {
	var l []string
	for i := range members {
		key, err := sign.Public(Secret(i), Height)
		l = append(l, must(key, err, "a secret"))
	}
	return l
}

// World returns a world with some members, and Setup.
func World(members int) api.World { return api.World{Setup: Setup(), Keys: Keys(members)} }

// Journal makes signed records, one after the other.
type Journal struct {
	clock int
	last  map[int]api.Record // of each author
}

// Sign returns a record of an author, with its number, the next clock and a seal.
func (j *Journal) Sign(author int, r api.Record) api.Record {
	if j.last == nil {
		j.last = map[int]api.Record{}
	}
	j.clock++
	r.Author, r.Clock, r.Number = author, j.clock, j.last[author].Number+1
	r.Prev = record.Id(j.last[author])
	r = Signed(r)
	j.last[author] = r
	return r
}

// Signed returns a record with the seal of its author.
func Signed(r api.Record) api.Record {
	s, err := record.Make(r, Secret(r.Author), Height)
	return must(s, err, "a record")
}

// Texts returns the texts of records.
func Texts(l ...api.Record) []string {
	var texts []string
	for _, r := range l {
		text, err := record.Text(r)
		texts = append(texts, must(text, err, "a record"))
	}
	return texts
}

// OfEachKind returns a record of each kind, in their order, without a seal.
func OfEachKind() []api.Record {
	l := []api.Record{
		{Report: Report("? make 3 a axle | make 4 a axle")},
		{Target: "0123456789abcdef", Report: Report("make 3 a axle")},
		{Amendment: api.Amendment{From: 3, To: 40, Void: true, Rule: Rule("rule r for coach: limit km 5;")}},
		{Concession: api.Concession{Part: "a", Rule: "r", To: 7}},
		{Name: "v1", Members: []int{0, 3}},
		{Target: "0123456789abcdef"},
		{Text: "rule q for axle: batch = \"A\";"},
		{Target: "fedcba9876543210"},
		{Cost: api.Cost{Part: "a", Owner: "Rail", Day: 5, Amount: 100}},
		{Transfer: api.Transfer{From: "Forge", To: "Rail", Amount: 7}},
	}
	for i := range l {
		l[i].Kind, l[i].Number, l[i].Clock = api.RecReport+i, 1, 1
	}
	return l
}

// ReportOf returns a record with the report of a text.
func ReportOf(text string) api.Record {
	return api.Record{Kind: api.RecReport, Report: Report(text)}
}
