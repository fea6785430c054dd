package script

import (
	"strconv"

	"bogie/api"
	"bogie/record"
	"bogie/report"
	"bogie/rule"
)

// journal is the records that were made.
type journal struct {
	ids  []string       // of all records
	last map[int]string // the Id of the last one of each member
	made map[int]int    // how many each member has made
}

func newJournal() journal { return journal{last: map[int]string{}, made: map[int]int{}} }

// make makes a record of a kind by the first number of a command, the member, at the second one, the depot; what it says is found by a function.
func (e *execution) make(c command, kind int, say func(r *api.Record)) string {
	member := c.numbers[0]
	need(member < e.members, api.ErrArg)
	d := e.depot(c.numbers[1])
	j := &e.journal
	r := api.Record{Kind: kind, Author: member, Number: j.made[member] + 1, Prev: j.last[member], Clock: len(j.ids) + 1}
	say(&r)
	r = must(record.Make(r, secret(member), height))
	check(d.Receive(must(record.Text(r))))
	id := record.Id(r)
	j.ids = append(j.ids, id)
	j.last[member] = id
	j.made[member]++
	return "record " + strconv.Itoa(len(j.ids))
}

// id returns the Id of the record that was made with a number.
func (e *execution) id(number int) string {
	need(number >= 1 && number <= len(e.journal.ids), api.ErrNone)
	return e.journal.ids[number-1]
}

func (e *execution) report(c command) string {
	return e.make(c, api.RecReport, func(r *api.Record) { r.Report = must(report.Parse(c.text)) })
}

func (e *execution) correct(c command) string {
	return e.make(c, api.RecCorrect, func(r *api.Record) {
		r.Target = e.id(c.numbers[2])
		if c.text != "" {
			r.Report = must(report.Parse(c.text))
		}
	})
}

func (e *execution) rule(c command) string {
	return e.make(c, api.RecRule, func(r *api.Record) {
		parsed, err, _ := rule.Parse(c.text)
		r.Amendment = api.Amendment{From: c.numbers[2], To: c.numbers[3], Void: c.void, Rule: must(parsed, err)}
	})
}

func (e *execution) concede(c command) string {
	return e.make(c, api.RecConcede, func(r *api.Record) {
		r.Concession = api.Concession{Part: c.names[0], Rule: c.names[1], To: c.numbers[2]}
	})
}

func (e *execution) hold(c command) string {
	return e.make(c, api.RecHold, func(r *api.Record) { r.Name, r.Members = c.names[0], c.numbers[2:] })
}

// about makes a record of a kind about another one.
func (e *execution) about(c command, kind int) string {
	return e.make(c, kind, func(r *api.Record) { r.Target = e.id(c.numbers[2]) })
}

func (e *execution) back(c command) string { return e.about(c, api.RecBack) }

func (e *execution) clear(c command) string { return e.about(c, api.RecClear) }

func (e *execution) recall(c command) string {
	return e.make(c, api.RecRecall, func(r *api.Record) { r.Text = c.text })
}

func (e *execution) cost(c command) string {
	return e.make(c, api.RecCost, func(r *api.Record) {
		r.Cost = api.Cost{Part: c.names[0], Owner: c.names[1], Day: c.numbers[2], Amount: c.numbers[3]}
	})
}

func (e *execution) pay(c command) string {
	return e.make(c, api.RecPay, func(r *api.Record) {
		r.Transfer = api.Transfer{From: c.names[0], To: c.names[1], Amount: c.numbers[2]}
	})
}
