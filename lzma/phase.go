package lzma

// phase is the number that the chapter calls the state: which operations were the last ones.
type phase uint8

// phases is how many there are; those from firstCopied on stand behind a copy, those below it behind a byte.
const (
	phases      = 12
	firstCopied = 7
)

func (p phase) copied() bool {
	return p >= firstCopied
}

func (p phase) behindByte() phase {
	switch {
	case p < 4:
		return 0
	case p < 10:
		return p - 3
	}
	return p - 6
}

func (p phase) behindMatch() phase {
	if p.copied() {
		return 10
	}
	return 7
}

func (p phase) behindRepeat() phase {
	if p.copied() {
		return 11
	}
	return 8
}

func (p phase) behindShort() phase {
	if p.copied() {
		return 11
	}
	return 9
}
