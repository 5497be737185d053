package compose

import (
	"strconv"
	"testing"
)

// TestTable: what was set last is got, until the table is empty; a name that was not set is not known.
func TestTable(t *testing.T) {
	var x table[string]
	if got, known := x.get("a"); known || got != "" {
		t.Errorf("of a table without rows: %q, %v", got, known)
	}
	x.empty()
	x.set("a", "1")
	x.set("b", "")
	x.set("", "3")
	x.set("a", "2")
	for _, row := range []struct {
		name, want string
		known      bool
	}{{"a", "2", true}, {"b", "", true}, {"", "3", true}, {"c", "", false}, {"aa", "", false}, {"A", "", false}} {
		if got, known := x.get(row.name); got != row.want || known != row.known {
			t.Errorf("%q: %q, %v", row.name, got, known)
		}
	}
	x.empty()
	for _, name := range []string{"a", "b", "", "c"} {
		if got, known := x.get(name); known || got != "" {
			t.Errorf("%q of an empty table: %q", name, got)
		}
	}
	x.set("a", "4")
	if got, known := x.get("a"); got != "4" || !known {
		t.Errorf("set behind empty: %q, %v", got, known)
	}
}

// TestTableMany: a table may be great, and of whatever type.
func TestTableMany(t *testing.T) {
	var x table[[2]int]
	for at := range 1 << 16 {
		x.set(strconv.Itoa(at), [2]int{at, -at})
	}
	for at := range 1 << 16 {
		if got, known := x.get(strconv.Itoa(at)); got != [2]int{at, -at} || !known {
			t.Fatalf("%d: %v, %v", at, got, known)
		}
	}
	if got, known := x.get("-1"); known || got != [2]int{} {
		t.Errorf("-1: %v", got)
	}
}
