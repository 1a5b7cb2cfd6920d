package impl

const MaxValue = 1000000000
const MaxVersion = 1000000
const MaxMachines = 8
const MaxRegions = 6
const MaxSlots = 6
const MaxId = 1000000

const (
	lockedBit = 1 << iota
	usedBit
	versionStep
)

const maxHead = MaxVersion*versionStep + usedBit + lockedBit

// headWord is a number that is taken for a head; only ok tells whether it is one.
type headWord int64

func (h headWord) ok() bool { return h >= 0 && h <= maxHead }

func (h headWord) version() int64 { return int64(h) / versionStep }

func (h headWord) used() bool { return h&usedBit != 0 }

func (h headWord) locked() bool { return h&lockedBit != 0 }

// askHead keeps the answer for what is no head in one place, whatever is asked.
func askHead[T any](h headWord, ask func() T, otherwise T) T {
	if !h.ok() {
		return otherwise
	}
	return ask()
}

func Pack(version int64, used bool, locked bool) (int64, bool) {
	if version < 0 || version > MaxVersion {
		return 0, false
	}
	head := version * versionStep
	if used {
		head |= usedBit
	}
	if locked {
		head |= lockedBit
	}
	return head, true
}

func HeadOk(head int64) bool { return headWord(head).ok() }

func Version(head int64) int64 {
	h := headWord(head)
	return askHead(h, h.version, -1)
}

func Used(head int64) bool {
	h := headWord(head)
	return askHead(h, h.used, false)
}

func Locked(head int64) bool {
	h := headWord(head)
	return askHead(h, h.locked, false)
}

func Next(head int64, used bool) (int64, bool) {
	if !HeadOk(head) {
		return 0, false
	}
	// Pack refuses the version behind MaxVersion.
	return Pack(Version(head)+1, used, false)
}
