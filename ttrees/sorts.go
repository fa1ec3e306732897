package ttrees

// sort of a table, or of a list.
type sort struct {
	how     how
	section int // of a dotted table: the node of the one whose key made it
}

// how a table, or a list, came to be.
type how uint8

const (
	closed how = iota // it stands in a value; none of these is kept in a map of sorts
	header
	named
	dotted
	tables // a list of them
)
