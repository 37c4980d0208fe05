package civil_test

import (
	"strings"
	"testing"

	"lumberroom/api"
	"lumberroom/civil"
)

var someTexts = []struct {
	n int
	s string
}{
	{0, "1970-01-01"},
	{-1, "1969-12-31"},
	{11016, "2000-02-29"},
	{20776, "2026-11-19"},
	{-719162, "0001-01-01"},
	{-718008, "0004-02-29"},
	{-715876, "0009-12-31"},
	{-715875, "0010-01-01"},
	{-683004, "0099-12-31"},
	{-683003, "0100-01-01"},
	{-354286, "0999-12-31"},
	{-354285, "1000-01-01"},
	{2932896, "9999-12-31"},
}

// noTexts are of another form; some of them name a date all the same.
var noTexts = []string{
	"", "-", "--", "2024", "2024-01", "2024-01-", "2024-01-0", "2024-01-011", "2024-1-011", "2024-1-01", "2024-01-1",
	"2024-1-1", "02024-01-01", "024-01-01", "24-01-01", "12024-01-01", "20240101", "2024001001", "2024-001-1", "202-401-01",
	"2024/01/01", "2024.01.01", "2024-01/01", "2024_01-01", "2024\xad01-01", "----------", "2024-01--1", "-024-01-01",
	"+024-01-01", "2024-+1-01", "2024--1-01", "2024-01-+1", "2024- 1-01", " 024-01-01", "2024-01- 1", "0x24-01-01",
	"2_24-01-01", "2024-0_-01", "1e03-01-01", "2024-01-0x", " 2024-01-01", "2024-01-01 ", "2024-01-01\n", "2024-01-01\x00",
	"\x002024-01-01", "2024-01-01T00:00", "2024-01-01Z", "YYYY-MM-DD", "abcd-ef-gh", "202\xb2-01-01", "20\xd9\xa2\xd9\xa4-01",
	"\xef\xbc\x922024-01", "2024-01-0\xff", "2024\xe2\x80\x9001-01", "2024-W01-1", "2024-001", "0000000000", "2024-99-9",
	"9999-99-999", "-0001-01-01", "+2024-01-01", "01-01-2024", "2024-/0-01", "2024-0:-01", "2024-01-/1", "2024-01-:1",
}

// noDateTexts are of the form, but there is no such date.
var noDateTexts = []string{
	"0000-00-00", "0000-01-01", "0000-12-31", "0000-02-29", "2024-00-01", "2024-13-01", "2024-01-00", "2024-01-32",
	"2024-02-30", "2023-02-29", "1900-02-29", "2100-02-29", "0100-02-29", "2024-04-31", "2024-06-31", "2024-09-31",
	"2024-11-31", "2024-12-32", "9999-12-32", "9999-13-01", "9999-99-99", "2024-00-00", "2024-20-01", "2024-01-99",
}

func TestText(t *testing.T) {
	for _, c := range someTexts {
		if s, err := civil.Text(c.n); s != c.s || err != api.OK {
			t.Errorf("Text(%d) = %q, %v, want %q", c.n, s, err, c.s)
		}
	}
	for _, n := range noDays {
		if s, err := civil.Text(n); s != "" || err != api.ErrArg {
			t.Errorf("Text(%d) = %q, %v, want nothing, ErrArg", n, s, err)
		}
	}
}

func TestTextsOfAllDays(t *testing.T) {
	var all []byte
	for n := api.FirstDay; n <= api.LastDay; n++ {
		s, _ := civil.Text(n)
		all = append(append(all, s...), '\n')
	}
	checkSum(t, "all texts", all, 0x13c24567)
}

func TestTextsRise(t *testing.T) {
	earlier := ""
	for n := api.FirstDay; n <= api.LastDay; n++ {
		s, _ := civil.Text(n)
		if s <= earlier {
			t.Fatalf("%q stands behind %q", s, earlier)
		}
		if k, err := civil.Read(s); k != n || err != api.OK {
			t.Fatalf("Read(%q) = %d, %v, want %d", s, k, err, n)
		}
		earlier = s
	}
}

func TestRead(t *testing.T) {
	for _, c := range someTexts {
		if n, err := civil.Read(c.s); n != c.n || err != api.OK {
			t.Errorf("Read(%q) = %d, %v, want %d", c.s, n, err, c.n)
		}
	}
	for _, s := range noTexts {
		if n, err := civil.Read(s); n != 0 || err != api.ErrSyntax {
			t.Errorf("Read(%q) = %d, %v, want 0, ErrSyntax", s, n, err)
		}
	}
	for _, s := range noDateTexts {
		if n, err := civil.Read(s); n != 0 || err != api.ErrArg {
			t.Errorf("Read(%q) = %d, %v, want 0, ErrArg", s, n, err)
		}
	}
}

// All months and days of two digits in some years.
func TestReadsOfAllDigits(t *testing.T) {
	var all []byte
	for _, y := range []int{0, 1, 4, 100, 400, 1582, 1752, 1900, 1970, 1999, 2000, 2023, 2024, 2100, 9996, 9999} {
		for m := range 100 {
			for d := range 100 {
				s := strings.Join([]string{slowDigits(y, 4), slowDigits(m, 2), slowDigits(d, 2)}, "-")
				n, err := civil.Read(s)
				all = appendDay(all, n, err)
			}
		}
	}
	checkSum(t, "all reads", all, 0x9d7c4ab1)
}

// Each byte at each place: changed, put in ahead of it, or taken out.
func TestReadOfEachByte(t *testing.T) {
	for _, s := range []string{"2024-02-29", "1970-01-01", "9999-12-31", "0001-01-01"} {
		for i := range len(s) + 1 {
			for c := range 256 {
				sign := string([]byte{byte(c)})
				checkRead(t, s[:i]+sign+s[i:])
				if i < len(s) {
					checkRead(t, s[:i]+sign+s[i+1:])
				}
			}
			checkRead(t, s[:i])
			checkRead(t, s[i:])
			checkRead(t, s[:i]+s[min(i+1, len(s)):])
		}
	}
}

// A text that is not of the form is told ahead of a date that is none.
func TestFirstErrorIsTold(t *testing.T) {
	for _, s := range []string{"0000-00-0x", "9999-99-99 ", "x999-99-99", "2024-02-3", "2024-13-001", "20240230"} {
		if n, err := civil.Read(s); n != 0 || err != api.ErrSyntax {
			t.Errorf("Read(%q) = %d, %v, want 0, ErrSyntax", s, n, err)
		}
	}
}
