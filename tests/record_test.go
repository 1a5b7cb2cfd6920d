package tests

import (
	"math"
	"reflect"
	"slices"
	"strconv"
	"strings"
	"testing"

	"loop.example/g00153/impl"
)

// The limits stand here as the document writes them, so that a changed constant is noticed.
const (
	lastValue      = 1000000000
	lastRegion     = 5
	lastSlot       = 5
	lastId         = 1000000
	lastSetVersion = lastVersion - 1
)

func setsOn(region int64, slots ...int64) []impl.Set {
	var sets []impl.Set
	for i, slot := range slots {
		value := int64(i*1000 - 1500)
		sets = append(sets, impl.Set{Region: region, Slot: slot, Value: value, Used: i%2 == 0, Version: int64(i * 7)})
	}
	return sets
}

func recordOn(kind, tx, region int64, slots ...int64) impl.Record {
	return impl.Record{Kind: kind, Tx: tx, Region: region, Sets: setsOn(region, slots...)}
}

// goodRecords are ordinary ones of each Kind and those that meet a limit exactly.
func goodRecords() []impl.Record {
	var list []impl.Record
	for kind := int64(1); kind <= 3; kind++ {
		for region := int64(0); region <= lastRegion; region++ {
			for _, tx := range []int64{1, 2, 10, 999999, lastId} {
				list = append(list, recordOn(kind, tx, region, 0), recordOn(kind, tx, region, lastSlot),
					recordOn(kind, tx, region, 1, 4), recordOn(kind, tx, region, 0, 1, 2, 3, 4, 5))
			}
		}
		for _, value := range []int64{-lastValue, 1 - lastValue, -10, -1, 0, 1, 9, 10, lastValue - 1, lastValue} {
			for _, version := range []int64{0, 1, 10, lastSetVersion} {
				for _, used := range []bool{false, true} {
					set := impl.Set{Region: 3, Slot: 2, Value: value, Used: used, Version: version}
					list = append(list, impl.Record{Kind: kind, Tx: 7, Region: 3, Sets: []impl.Set{set}})
				}
			}
		}
	}
	return list
}

func sameRecord(a, b impl.Record) bool {
	return a.Kind == b.Kind && a.Tx == b.Tx && a.Region == b.Region && slices.Equal(a.Sets, b.Sets)
}

// readByWords is another way to the same answer: it takes the text apart into words and the words by strconv.
func readByWords(text string) (impl.Record, bool) {
	var numbers []int64
	for _, word := range strings.Split(text, " ") {
		n, err := strconv.ParseInt(word, 10, 64)
		if err != nil || strconv.FormatInt(n, 10) != word || len(strings.TrimPrefix(word, "-")) > 10 {
			return impl.Record{}, false
		}
		numbers = append(numbers, n)
	}
	if len(numbers) < 8 || len(numbers)%4 != 0 || numbers[3] != int64(len(numbers)/4-1) || len(numbers) > 4+4*12 {
		return impl.Record{}, false
	}
	r := impl.Record{Kind: numbers[0], Tx: numbers[1], Region: numbers[2]}
	good := r.Kind >= 1 && r.Kind <= 3 && r.Tx >= 1 && r.Tx <= lastId && r.Region >= 0 && r.Region <= lastRegion
	before := int64(-1)
	for at := 4; at < len(numbers); at += 4 {
		slot, value, used, version := numbers[at], numbers[at+1], numbers[at+2], numbers[at+3]
		good = good && slot > before && slot <= lastSlot && value >= -lastValue && value <= lastValue
		good = good && (used == 0 || used == 1) && version >= 0 && version <= lastSetVersion
		before = slot
		r.Sets = append(r.Sets, impl.Set{Region: r.Region, Slot: slot, Value: value, Used: used == 1, Version: version})
	}
	if !good {
		return impl.Record{}, false
	}
	return r, true
}

// checkRead holds ReadRecord against readByWords, and what it reads against ShowRecord.
func checkRead(t *testing.T, text string) bool {
	t.Helper()
	got, ok := impl.ReadRecord(text)
	want, wantOk := readByWords(text)
	if ok != wantOk || !sameRecord(got, want) {
		t.Errorf("ReadRecord(%q) = %+v, %v, want %+v, %v", text, got, ok, want, wantOk)
	}
	if ok && impl.ShowRecord(got) != text {
		t.Errorf("ReadRecord(%q) takes a text that ShowRecord does not make: %q", text, impl.ShowRecord(got))
	}
	return ok
}

func checkRefused(t *testing.T, text string) {
	t.Helper()
	if got, ok := impl.ReadRecord(text); ok || !sameRecord(got, impl.Record{}) {
		t.Errorf("ReadRecord(%q) = %+v, %v, want the zero Record and false", text, got, ok)
	}
	checkRead(t, text)
}

func TestLimitsOfRecords(t *testing.T) {
	if impl.RcLock != 1 || impl.RcBackup != 2 || impl.RcDone != 3 || impl.MaxSets != 12 {
		t.Error("a constant of the records is not the document's")
	}
}

func TestSetsAtTheirLimits(t *testing.T) {
	good := impl.Set{Region: 2, Slot: 3, Value: 4, Used: true, Version: 5}
	numbers := []struct {
		name        string
		first, last int64
		put         func(s *impl.Set, n int64)
	}{
		{"Region", 0, lastRegion, func(s *impl.Set, n int64) { s.Region = n }},
		{"Slot", 0, lastSlot, func(s *impl.Set, n int64) { s.Slot = n }},
		{"Value", -lastValue, lastValue, func(s *impl.Set, n int64) { s.Value = n }},
		{"Version", 0, lastSetVersion, func(s *impl.Set, n int64) { s.Version = n }},
	}
	for _, number := range numbers {
		for _, n := range []int64{number.first, number.last, number.first - 1, number.last + 1, number.first + 1,
			number.last - 1, -1, 0, 1 << 32, -1 << 32, math.MaxInt64, math.MinInt64} {
			for _, used := range []bool{false, true} {
				s := good
				s.Used = used
				number.put(&s, n)
				if want := n >= number.first && n <= number.last; impl.SetOk(s) != want {
					t.Errorf("%s %d: SetOk(%+v) = %v, want %v", number.name, n, s, !want, want)
				}
			}
		}
	}
	if !impl.SetOk(impl.Set{}) {
		t.Error("the zero Set is one of region 0, slot 0")
	}
}

func TestRecordsAreShown(t *testing.T) {
	cases := []struct {
		record impl.Record
		text   string
	}{
		{impl.Record{Kind: 1, Tx: 1, Sets: []impl.Set{{}}}, "1 1 0 1 0 0 0 0"},
		{impl.Record{Kind: 1, Tx: 7, Region: 2, Sets: []impl.Set{{Region: 2, Slot: 5, Value: 12, Used: true, Version: 3}}},
			"1 7 2 1 5 12 1 3"},
		{impl.Record{Kind: 2, Tx: 42, Region: 1, Sets: []impl.Set{{Region: 1, Slot: 0, Value: -3, Used: true, Version: 2},
			{Region: 1, Slot: 4, Value: -9, Version: 9}}}, "2 42 1 2 0 -3 1 2 4 -9 0 9"},
		{impl.Record{Kind: 3, Tx: lastId, Region: 5, Sets: []impl.Set{{Region: 5, Slot: 1, Value: -lastValue, Version: lastSetVersion},
			{Region: 5, Slot: 2, Value: lastValue, Used: true}, {Region: 5, Slot: 3, Value: 10}}},
			"3 1000000 5 3 1 -1000000000 0 999999 2 1000000000 1 0 3 10 0 0"},
	}
	for _, c := range cases {
		if got := impl.ShowRecord(c.record); got != c.text {
			t.Errorf("ShowRecord(%+v) = %q, want %q", c.record, got, c.text)
		}
		if got, ok := impl.ReadRecord(c.text); !ok || !sameRecord(got, c.record) {
			t.Errorf("ReadRecord(%q) = %+v, %v, want %+v, true", c.text, got, ok, c.record)
		}
	}
}

func TestShownRecordsAreReadAgain(t *testing.T) {
	texts := map[string]impl.Record{}
	for _, r := range goodRecords() {
		if !impl.RecordOk(r) {
			t.Errorf("RecordOk(%+v) = false", r)
		}
		text := impl.ShowRecord(r)
		got, ok := impl.ReadRecord(text)
		if !ok || !sameRecord(got, r) {
			t.Errorf("%+v is shown as %q and read as %+v, %v", r, text, got, ok)
		}
		if other, is := texts[text]; is && !sameRecord(other, r) {
			t.Errorf("%+v and %+v are both shown as %q", other, r, text)
		}
		texts[text] = r
	}
}

// Each choice of slots that rises is a record, each order in which two are alike or fall is none.
func TestEveryChoiceOfSlots(t *testing.T) {
	for choice := 1; choice < 1<<(lastSlot+1); choice++ {
		var slots []int64
		for slot := int64(0); slot <= lastSlot; slot++ {
			if choice>>slot&1 == 1 {
				slots = append(slots, slot)
			}
		}
		r := recordOn(2, 9, 4, slots...)
		if got, ok := impl.ReadRecord(impl.ShowRecord(r)); !ok || !sameRecord(got, r) {
			t.Errorf("slots %v are read again as %+v, %v", slots, got, ok)
		}
		checkNoRecord(t, recordOn(2, 9, 4, append(slots, slots[len(slots)-1])...))
		checkNoRecord(t, recordOn(2, 9, 4, append([]int64{slots[0]}, slots...)...))
		if len(slots) > 1 {
			slices.Reverse(slots)
			checkNoRecord(t, recordOn(2, 9, 4, slots...))
		}
	}
}

func checkNoRecord(t *testing.T, r impl.Record) {
	t.Helper()
	if impl.RecordOk(r) {
		t.Errorf("RecordOk(%+v) = true", r)
	}
	if text := impl.ShowRecord(r); text != "" {
		t.Errorf("ShowRecord(%+v) = %q, want it empty", r, text)
	}
}

func TestRecordsPastTheirLimits(t *testing.T) {
	far := []int64{1 << 32, 1<<32 + 2, -1<<32 + 2, math.MaxInt64, math.MinInt64}
	for _, kind := range append([]int64{0, -1, 4, 5}, far...) {
		checkNoRecord(t, recordOn(kind, 7, 1, 0, 2))
	}
	for _, tx := range append([]int64{0, -1, -lastId, lastId + 1}, far...) {
		checkNoRecord(t, recordOn(1, tx, 1, 0, 2))
	}
	for _, region := range append([]int64{-1, lastRegion + 1}, far...) {
		checkNoRecord(t, recordOn(1, 7, region, 0, 2))
	}
	for _, slot := range append([]int64{-1, lastSlot + 1}, far...) {
		checkNoRecord(t, recordOn(1, 7, 1, slot))
		checkNoRecord(t, recordOn(1, 7, 1, 2, slot))
	}
	for at := range 3 {
		for _, value := range append([]int64{-lastValue - 1, lastValue + 1}, far...) {
			r := recordOn(1, 7, 1, 0, 2, 5)
			r.Sets[at].Value = value
			checkNoRecord(t, r)
		}
		for _, version := range append([]int64{-1, lastSetVersion + 1, lastSetVersion + 2}, far...) {
			r := recordOn(1, 7, 1, 0, 2, 5)
			r.Sets[at].Version = version
			checkNoRecord(t, r)
		}
		for _, region := range []int64{0, 2, -1, lastRegion + 1} {
			r := recordOn(1, 7, 1, 0, 2, 5)
			r.Sets[at].Region = region
			checkNoRecord(t, r)
		}
	}
}

func TestHowManySets(t *testing.T) {
	checkNoRecord(t, impl.Record{})
	checkNoRecord(t, impl.Record{Kind: 1, Tx: 7, Region: 1})
	checkNoRecord(t, impl.Record{Kind: 1, Tx: 7, Region: 1, Sets: []impl.Set{}})
	// There are fewer slots than MaxSets, so a seventh Set can't rise; 12 and 13 are refused by that as well.
	for _, many := range []int{7, 12, 13, 14, 100} {
		var slots []int64
		for slot := range many {
			slots = append(slots, int64(slot))
		}
		checkNoRecord(t, recordOn(1, 7, 1, slots...))
		checkNoRecord(t, recordOn(1, 7, 1, make([]int64, many)...))
	}
}

func TestTextsPastTheLimits(t *testing.T) {
	for _, text := range []string{
		"0 7 1 1 0 -3 1 2", "4 7 1 1 0 -3 1 2", "-1 7 1 1 0 -3 1 2",
		"2 0 1 1 0 -3 1 2", "2 -7 1 1 0 -3 1 2", "2 1000001 1 1 0 -3 1 2", "2 9999999999 1 1 0 -3 1 2",
		"2 7 -1 1 0 -3 1 2", "2 7 6 1 0 -3 1 2",
		"2 7 1 1 -1 -3 1 2", "2 7 1 1 6 -3 1 2",
		"2 7 1 1 0 -1000000001 1 2", "2 7 1 1 0 1000000001 1 2", "2 7 1 1 0 9999999999 1 2",
		"2 7 1 1 0 -3 -1 2", "2 7 1 1 0 -3 2 2", "2 7 1 1 0 -3 10 2",
		"2 7 1 1 0 -3 1 -1", "2 7 1 1 0 -3 1 1000000", "2 7 1 1 0 -3 1 1000001",
		"2 7 1 2 1 5 1 2 1 5 1 2", "2 7 1 2 4 5 1 2 1 5 1 2", "2 7 1 3 1 5 1 2 4 5 1 2 4 5 1 2",
	} {
		checkRefused(t, text)
	}
	for _, text := range []string{
		"1 7 1 1 0 -3 1 2", "3 7 1 1 0 -3 1 2", "2 1 1 1 0 -3 1 2", "2 1000000 1 1 0 -3 1 2", "2 7 0 1 0 -3 1 2",
		"2 7 5 1 0 -3 1 2", "2 7 1 1 5 -3 1 2", "2 7 1 1 0 -1000000000 1 2", "2 7 1 1 0 1000000000 1 2",
		"2 7 1 1 0 -3 0 2", "2 7 1 1 0 -3 1 0", "2 7 1 1 0 -3 1 999999", "2 7 1 2 1 5 1 2 4 5 1 2",
	} {
		if !checkRead(t, text) {
			t.Errorf("ReadRecord(%q) says false", text)
		}
	}
}

func TestTextsOfOtherLengths(t *testing.T) {
	for _, text := range []string{
		"", " ", "2", "2 7", "2 7 1", "2 7 1 0", "2 7 1 1", "2 7 1 -1", "2 7 1 1 0", "2 7 1 1 0 -3", "2 7 1 1 0 -3 1",
		"2 7 1 0 0 -3 1 2", "2 7 1 2 0 -3 1 2", "2 7 1 1 0 -3 1 2 0", "2 7 1 1 0 -3 1 2 4 0 0 9",
		"2 7 1 2 0 -3 1 2 4 0 0", "2 7 1 2 0 -3 1 2 4 0 0 9 5", "2 7 1 9999999999 0 -3 1 2",
		"2 7 1 -1 0 -3 1 2", "2 7 1 12 0 -3 1 2", "2 7 1 13 0 -3 1 2",
	} {
		checkRefused(t, text)
	}
	for _, many := range []int{6, 7, 11, 12, 13, 14, 1000} {
		text := "2 7 1 " + strconv.Itoa(many)
		for slot := range many {
			text += " " + strconv.Itoa(slot) + " 5 1 2"
		}
		if got := checkRead(t, text); got != (many == 6) {
			t.Errorf("ReadRecord says %v of a text of %d Sets", got, many)
		}
	}
	checkRefused(t, strings.Repeat("1 ", 200000)+"1")
	checkRefused(t, strings.Repeat("9", 200000))
}

// Each word of a good text in turn is written in another form, which is no number.
func TestWordsThatAreNoNumbers(t *testing.T) {
	words := strings.Split("2 7 1 2 0 -3 1 2 4 0 0 9", " ")
	for at, word := range words {
		digits := strings.TrimPrefix(word, "-")
		for _, wrong := range []string{"", "-", "+", "--" + digits, "+" + digits, "-+" + digits, "0" + word, "-0" + digits,
			"00" + digits, "0000000000" + digits, "-0", "+0", "00", word + "-", word + ".0", word + "e0", "0x" + digits, digits + "_0",
			word + ",", word + "\n", word + "\t", "\t" + word, word + "\x00", "\x00" + word, word + "\xff", "\xb2", "a", "٣", "NaN",
			" " + word, word + " ", "  " + word, word + "  ", word + "\r", word + "\v", word + "\u00a0", "10000000000", "-10000000000",
			"12345678901", "18446744073709551618", "18446744073709551616" + digits, "-9223372036854775808", "340282366920938463463374607431768211456"} {
			changed := slices.Clone(words)
			changed[at] = wrong
			checkRefused(t, strings.Join(changed, " "))
		}
	}
}

func TestOtherBytesBetweenNumbers(t *testing.T) {
	for _, between := range []string{"", "  ", "\t", "\n", ",", ", ", " ,", "\x00", "\xa0", "\u00a0", "-", "0"} {
		words := strings.Split("2 7 1 1 3 -3 1 2", " ")
		checkRefused(t, strings.Join(words, between))
		for at := 1; at < len(words); at++ {
			checkRefused(t, strings.Join(words[:at], " ")+between+strings.Join(words[at:], " "))
		}
	}
	for _, end := range []string{" ", "  ", "\n", "\r\n", "\t", "\x00", "\xff"} {
		checkRefused(t, "2 7 1 1 3 -3 1 2"+end)
		checkRefused(t, end+"2 7 1 1 3 -3 1 2")
	}
}

// Whatever one byte is changed into, taken out or put in: just the texts that ShowRecord makes are read.
func TestTextsNearbyAreReadOnlyIfShown(t *testing.T) {
	read := 0
	for _, text := range []string{"1 1 0 1 0 0 0 0", "2 7 1 2 0 -3 1 2 4 0 0 9", "3 1000000 5 1 5 -1000000000 1 999999"} {
		for at := 0; at <= len(text); at++ {
			var near []string
			for b := range 256 {
				near = append(near, text[:at]+string([]byte{byte(b)})+text[at:])
				if at < len(text) {
					near = append(near, text[:at]+string([]byte{byte(b)})+text[at+1:])
				}
			}
			if at < len(text) {
				near = append(near, text[:at]+text[at+1:], text[:at], text[at:])
			}
			for _, other := range near {
				if checkRead(t, other) {
					read++
				}
			}
		}
	}
	if read < 100 {
		t.Errorf("only %d of the texts nearby were read", read)
	}
}

// Every short text of the bytes that a record is made of, and one that it is not.
func TestShortTextsOfAllKinds(t *testing.T) {
	const bytes = " -0129x"
	for _, tail := range []string{"", " 1 0 1 0 0 0 0", " 0 1 0 0 0 0"} {
		texts := []string{""}
		for len(texts[0]) < 5 {
			var longer []string
			for _, text := range texts {
				checkRead(t, text+tail)
				for i := range len(bytes) {
					longer = append(longer, text+bytes[i:i+1])
				}
			}
			texts = longer
		}
	}
}

func TestRecordsStayAndShareNothing(t *testing.T) {
	room := setsOn(1, 0, 2, 4, 5)
	whole := slices.Clone(room)
	r := impl.Record{Kind: 1, Tx: 7, Region: 1, Sets: room[:2]}
	text := impl.ShowRecord(r)
	impl.RecordOk(r)
	if !reflect.DeepEqual(room, whole) || len(r.Sets) != 2 {
		t.Errorf("the Sets are %+v, were %+v", room, whole)
	}
	first, _ := impl.ReadRecord(text)
	second, _ := impl.ReadRecord(text)
	first.Sets[0].Value, first.Sets[1].Slot = 99, 3
	if !sameRecord(second, r) || impl.ShowRecord(r) != text {
		t.Errorf("two answers share their Sets: %+v", second)
	}
}
