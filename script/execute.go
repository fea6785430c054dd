package script

import (
	"strconv"
	"strings"

	"bogie/api"
	"bogie/catalog"
	"bogie/depot"
	"bogie/disk"
	"bogie/formula"
	"bogie/sign"
)

const (
	mostMembers = 6
	mostDepots  = 3
	sectors     = 4000 // of the disk of a depot
	height      = 3    // of the keys of members
)

// execution is what a script has led to so far.
type execution struct {
	lines   strings.Builder
	members int
	world   api.World
	disks   []*disk.Disk
	depots  []*depot.Depot
	journal journal
}

func newExecution() *execution {
	return &execution{members: 2, world: api.World{Setup: api.Setup{Damage: api.Formula{Op: api.FormNumber}}}, journal: newJournal()}
}

// must returns a result, and panics with its error if it has one.
func must[T any](result T, err api.Errno) T {
	check(err)
	return result
}

// check panics with an error, if it is one.
func check(err api.Errno) {
	if err != api.OK {
		panic(err)
	}
}

// need panics with an error unless something is right.
func need(right bool, err api.Errno) {
	if !right {
		panic(err)
	}
}

// execute executes a command, and prints its line.
func (e *execution) execute(c command) {
	result := "ok"
	defer func() {
		if p := recover(); p != nil {
			err, _ := p.(api.Errno)
			result = "error " + strconv.Itoa(int(err))
		}
		e.lines.WriteString(c.word)
		if c.first {
			e.lines.WriteString(" " + strconv.Itoa(c.numbers[0]))
		}
		e.lines.WriteString(": " + result + "\n")
	}()
	preparing := e.preparations()[c.word]
	need((preparing != nil) == (len(e.depots) == 0), api.ErrState)
	if preparing != nil {
		preparing(c)
		return
	}
	if answer := e.commands()[c.word](c); answer != "" {
		result = answer
	}
}

// preparations returns the commands that come before open, and open.
func (e *execution) preparations() map[string]func(c command) {
	return map[string]func(c command){
		"members":  e.setMembers,
		"catalog":  e.setCatalog,
		"damage":   e.setDamage,
		"permit":   e.permit,
		"duty":     e.duty,
		"warranty": e.warranty,
		"open":     e.open,
	}
}

// commands returns the commands that come behind open; they return what they print, or nothing.
func (e *execution) commands() map[string]func(c command) string {
	return map[string]func(c command) string{
		"report":   e.report,
		"correct":  e.correct,
		"rule":     e.rule,
		"concede":  e.concede,
		"hold":     e.hold,
		"back":     e.back,
		"recall":   e.recall,
		"clear":    e.clear,
		"cost":     e.cost,
		"pay":      e.pay,
		"send":     e.send,
		"crash":    e.crash,
		"compact":  e.compact,
		"verdict":  e.verdict,
		"move":     e.move,
		"grounded": e.grounded,
		"due":      e.due,
	}
}

func (e *execution) setMembers(c command) {
	n := c.numbers[0]
	need(n >= 1 && n <= mostMembers, api.ErrArg)
	e.members = n
}

func (e *execution) setCatalog(c command) {
	parsed, err, _ := catalog.Parse(c.text)
	e.world.Setup.Catalog = must(parsed, err)
}

func (e *execution) setDamage(c command) {
	parsed, err, _ := formula.Parse(c.text)
	e.world.Setup.Damage = must(parsed, err)
}

func (e *execution) permit(c command) {
	s := api.Sub{Kind: c.names[0], Slot: c.names[1], Other: c.names[2], To: c.numbers[0]}
	need(s.To <= api.MaxDay, api.ErrArg)
	if len(c.names) > 3 {
		s.Twin = c.names[3]
	}
	e.world.Subs = append(e.world.Subs, s)
}

func (e *execution) duty(c command) {
	d := api.Duty{Name: c.names[0], Kind: c.names[1], Key: c.names[2], After: c.numbers[0], Within: c.numbers[1]}
	need(d.After >= api.OpMake && d.After <= api.OpScrap && d.Within <= api.MaxDay, api.ErrArg)
	e.world.Duties = append(e.world.Duties, d)
}

func (e *execution) warranty(c command) {
	w := api.Warranty{Kind: c.names[0], Maker: c.names[1], Days: c.numbers[0], Km: c.numbers[1], Percent: c.numbers[2]}
	need(w.Days <= api.MaxDay && w.Percent <= 100, api.ErrArg)
	e.world.Warranties = append(e.world.Warranties, w)
}

func secret(member int) string { return "member " + strconv.Itoa(member) }

func (e *execution) open(c command) {
	n := c.numbers[0]
	need(n >= 1 && n <= mostDepots, api.ErrArg)
	w := e.world
	w.Keys = nil
	for m := range e.members {
		w.Keys = append(w.Keys, must(sign.Public(secret(m), height)))
	}
	var disks []*disk.Disk
	var depots []*depot.Depot
	for range n {
		d := disk.New(sectors)
		disks, depots = append(disks, d), append(depots, must(depot.Open(w, d)))
	}
	e.world, e.disks, e.depots = w, disks, depots
}

// depot returns the depot with a number.
func (e *execution) depot(number int) *depot.Depot {
	need(number < len(e.depots), api.ErrArg)
	return e.depots[number]
}

func (e *execution) send(c command) string {
	from, to := e.depot(c.numbers[0]), e.depot(c.numbers[1])
	n := 0
	for _, text := range from.Texts() {
		if to.Receive(text) == api.OK {
			n++
		}
	}
	return strconv.Itoa(n)
}

func (e *execution) crash(c command) string {
	n := c.numbers[0]
	e.depot(n)
	e.disks[n].Fail(0, 0)
	e.disks[n].Start()
	e.depots[n] = must(depot.Open(e.world, e.disks[n]))
	return ""
}

func (e *execution) compact(c command) string {
	check(e.depot(c.numbers[0]).Compact())
	return ""
}

func (e *execution) verdict(c command) string {
	v := must(e.depot(c.numbers[0]).Verdict(c.names[0], c.numbers[1]))
	switch v.Kind {
	case api.VerdictReleased:
		return "released"
	case api.VerdictNone:
		return "none"
	case api.VerdictLarge:
		return "large"
	}
	s := "fault"
	for _, f := range v.Faults {
		s += " " + strconv.Itoa(f.Kind) + "/" + f.Part + "/" + f.Name
	}
	return s
}

func (e *execution) move(c command) string {
	check(e.depot(c.numbers[0]).Move(c.names[0], c.numbers[1]))
	return ""
}

// list returns words with blanks between them, or `none`.
func list(words []string) string {
	if len(words) == 0 {
		return "none"
	}
	return strings.Join(words, " ")
}

func (e *execution) grounded(c command) string {
	return list(must(e.depot(c.numbers[0]).Grounded(c.numbers[1])))
}

func (e *execution) due(c command) string {
	var words []string
	for _, t := range must(e.depot(c.numbers[0]).Due()) {
		words = append(words, t.From+">"+t.To+"="+strconv.Itoa(t.Amount))
	}
	return list(words)
}
