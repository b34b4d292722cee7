package text

// letters is how many holders there may be: one for each capital letter.
const letters = 26

// holder: what a letter of a form stands for: where its number lies in a line, or its list of numbers, at least one; and how one number is read from a word and written as one.
type holder struct {
	place func(l *line) *int
	list  func(l *line) *[]int
	read  func(word string) (int, bool)
	write func(b []byte, n int) ([]byte, bool)
}

func isLetter(c byte) bool { return 'A' <= c && c <= 'Z' }

// makeHolders: the holders by their letters.
func makeHolders() [letters]holder {
	return [letters]holder{
		'R' - 'A': {place: func(l *line) *int { return &l.instr.R }, read: readVariable, write: writeVariable},
		'S' - 'A': {place: func(l *line) *int { return &l.instr.S }, read: readVariable, write: writeVariable},
		'T' - 'A': {place: func(l *line) *int { return &l.instr.T }, read: readVariable, write: writeVariable},
		'N' - 'A': {place: numberOf, read: readNumber, write: writeNumber},
		'I' - 'A': {place: numberOf, read: readInt, write: writeInt},
		'G' - 'A': {place: numberOf, read: readGlobal, write: writeGlobal},
		'F' - 'A': {place: numberOf, read: readFunction, write: writeFunction},
		'A' - 'A': {list: func(l *line) *[]int { return &l.instr.Args }, read: readVariable, write: writeVariable},
		'B' - 'A': {list: func(l *line) *[]int { return &l.instr.Rets }, read: readVariable, write: writeVariable},
		'M' - 'A': {place: func(l *line) *int { return &l.globals }, read: readNumber, write: writeNumber},
		'P' - 'A': {place: func(l *line) *int { return &l.head.Params }, read: readNumber, write: writeNumber},
		'Q' - 'A': {place: func(l *line) *int { return &l.head.Results }, read: readNumber, write: writeNumber},
		'V' - 'A': {place: func(l *line) *int { return &l.head.Vars }, read: readNumber, write: writeNumber},
	}
}

func numberOf(l *line) *int { return &l.instr.N }

// take reads what the holder stands for from the first of some tokens, and gives those behind.
func (h *holder) take(tokens []string, l *line) ([]string, bool) {
	if h.list != nil {
		return h.takeList(tokens, h.list(l))
	}
	n, ok := h.read(tokens[0])
	*h.place(l) = n
	return tokens[1:], ok
}

func (h *holder) takeList(tokens []string, list *[]int) ([]string, bool) {
	for len(tokens) > 0 {
		n, ok := h.read(tokens[0])
		if !ok {
			return nil, false
		}
		*list = append(*list, n)
		if len(tokens) == 1 || tokens[1] != "," {
			return tokens[1:], true
		}
		tokens = tokens[2:]
	}
	return nil, false
}

// give lays what the holder stands for behind b. It leaves nothing in its place, so that what is left behind a whole form is what the form does not name.
func (h *holder) give(b []byte, l *line) ([]byte, bool) {
	if h.list != nil {
		list := h.list(l)
		all := *list
		*list = nil
		return h.giveList(b, all)
	}
	place := h.place(l)
	n := *place
	*place = 0
	return h.write(gap(b, ofWord), n)
}

func (h *holder) giveList(b []byte, list []int) ([]byte, bool) {
	for i, n := range list {
		if i > 0 {
			b = append(gap(b, ','), ',')
		}
		var ok bool
		if b, ok = h.write(gap(b, ofWord), n); !ok {
			return b, false
		}
	}
	return b, len(list) > 0
}
