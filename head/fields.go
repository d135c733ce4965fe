package head

// field is a part of a header, by its number.
type field int

// The fields that are read or written. The others are noughts, or tell nothing.
const (
	nameField field = iota
	modeField
	userField
	groupField
	sizeField
	timeField
	sumField
	kindField
	linkField
	markField
	prefixField
	fields
)

// place is where a field begins, and how many bytes it has.
type place struct {
	at, size int
}

// places are where the fields stand.
var places = [fields]place{
	nameField:   {0, 100},
	modeField:   {100, 8},
	userField:   {108, 8},
	groupField:  {116, 8},
	sizeField:   {124, 12},
	timeField:   {136, 12},
	sumField:    {148, 8},
	kindField:   {156, 1},
	linkField:   {157, 100},
	markField:   {257, 8},
	prefixField: {345, 155},
}

// size is how many bytes a field has.
func (f field) size() int { return places[f].size }

// has tells whether a header's byte is one of the field's.
func (f field) has(i int) bool {
	p := places[f]
	return i >= p.at && i < p.at+p.size
}

// of is a field's bytes in a header, with no room into the next field.
func (f field) of(b []byte) []byte {
	p := places[f]
	end := p.at + p.size
	return b[p.at:end:end]
}
