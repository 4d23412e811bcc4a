package gate

import (
	"strconv"
	"strings"

	"tidemark/api"
	"tidemark/route"
)

// Request gives an operation's line, without the line's end (P21.2).
func Request(op api.Op) (string, api.Errno) {
	if len(op.Token)+len(op.Key)+len(op.Hi)+len(op.Value) > api.MaxLine {
		return "", api.ErrRequest // no word is shorter than its text
	}
	line := lineOf(op)
	// What the line does not say of the operation, or says otherwise, shows when it is read back.
	if said, e := Parse(line); e != api.OK || said != op {
		return "", api.ErrRequest
	}
	return line, api.OK
}

// lineOf writes the fields that the lines of an operation's kind name. An operation of no kind has the empty line, which is no request.
func lineOf(op api.Op) string {
	switch op.Kind {
	case api.OpBegin:
		return "begin " + modeOf(op) + " " + route.Word(op.Token)
	case api.OpGet:
		return "get " + route.Word(op.Key)
	case api.OpScan:
		return scanName(op) + " " + route.Word(op.Key) + " " + route.Word(op.Hi) + " " + strconv.Itoa(op.Limit)
	case api.OpPut:
		return "put " + route.Word(op.Key) + " " + route.Word(op.Value)
	case api.OpDelete:
		return "del " + route.Word(op.Key)
	case api.OpCommit:
		return "commit"
	case api.OpAbort:
		return "abort"
	}
	return ""
}

func modeOf(op api.Op) string {
	switch {
	case op.AsOf:
		return "at"
	case op.ReadOnly:
		return "ro"
	}
	return "rw"
}

func scanName(op api.Op) string {
	if op.Back {
		return "rscan"
	}
	return "scan"
}

// Parse gives the operation of a line (P21.1).
func Parse(line string) (api.Op, api.Errno) {
	if len(line) > api.MaxLine {
		return api.Op{}, api.ErrRequest
	}
	f := &fields{left: strings.Split(line, " ")}
	op := f.op()
	if f.wrong || len(f.left) > 0 {
		return api.Op{}, api.ErrRequest
	}
	return op, api.OK
}

// fields are those of a line that are not read yet. What is read counts only if none of them was wrong.
type fields struct {
	left  []string
	wrong bool
}

// op reads the operation that a line says. A name that is all of another one and more falls through to it.
func (f *fields) op() api.Op {
	var op api.Op
	switch f.name() {
	case "begin at":
		op.AsOf = true
		fallthrough
	case "begin ro":
		op.ReadOnly = true
		fallthrough
	case "begin rw":
		op.Kind, op.Token = api.OpBegin, f.text()
	case "get":
		op.Kind, op.Key = api.OpGet, f.text()
	case "rscan":
		op.Back = true
		fallthrough
	case "scan":
		op.Kind, op.Key, op.Hi, op.Limit = api.OpScan, f.text(), f.text(), f.limit()
	case "put":
		op.Kind, op.Key, op.Value = api.OpPut, f.text(), f.text()
	case "del":
		op.Kind, op.Key = api.OpDelete, f.text()
	case "commit":
		op.Kind = api.OpCommit
	case "abort":
		op.Kind = api.OpAbort
	default:
		f.wrong = true
	}
	return op
}

// name reads what says which operation it is: of a begin that takes two fields.
func (f *fields) name() string {
	name := f.next()
	if name == "begin" {
		name += " " + f.next()
	}
	return name
}

// next gives the next field as it stands. Of one that is missing the empty text is read, which no field may be.
func (f *fields) next() string {
	if len(f.left) == 0 {
		return ""
	}
	field := f.left[0]
	f.left = f.left[1:]
	return field
}

// text reads a word, whatever text it is of.
func (f *fields) text() string {
	text, e := route.Unword(f.next())
	f.check(e == api.OK)
	return text
}

// limit reads a number in the one form in which it is written.
func (f *fields) limit() int {
	digits := f.next()
	n, err := strconv.ParseInt(digits, 10, 64)
	f.check(err == nil && n >= 0 && strconv.FormatInt(n, 10) == digits)
	return int(n)
}

// check notes whether a field is as it must be.
func (f *fields) check(right bool) { f.wrong = f.wrong || !right }
