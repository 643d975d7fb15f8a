package living_test

import (
	"math/rand/v2"
	"reflect"
	"testing"

	"withy/api"
	"withy/living"
	"withy/store"
	"withy/storetest"
)

// compare holds the records against what store.Ids and store.Get say of all of l.
func compare(t *testing.T, l []api.Version) {
	t.Helper()
	got, e := living.Records(l)
	if want := store.Check(l); e != want || e != api.OK && len(got) > 0 {
		t.Fatalf("Records(%v) = %v, %v, want %v", l, got, e, want)
	}
	ids, _ := store.Ids(l)
	if len(got) != len(ids) {
		t.Fatalf("Records(%v) = %v, want of %v", l, got, ids)
	}
	for i, id := range ids {
		if want, _ := store.Get(l, id); !reflect.DeepEqual(got[i], want) {
			t.Fatalf("Records(%v)[%d] = %v, want %v", l, i, got[i], want)
		}
	}
}

func TestRecords(t *testing.T) {
	stores := [][]api.Version{
		nil,
		storetest.Of("b;0;;"),
		storetest.Of("b;0;;", "-b;0"),
		storetest.Of("b;0;k=1;", "a;0;k=2;", "b;0;k=3;"),
		storetest.Of("b;1;k=1;", "b;2;k=2;", "a;0;;", "-b;2"),
		storetest.Of("b;1;k=1;", "b;2;k=2;", "-b;1", "-b;2", "a;7;;b", "b;2;k=3;"),
	}
	for _, l := range append(stores, storetest.Bad()...) {
		compare(t, l)
	}
}

func TestRecordsOfManyStores(t *testing.T) {
	n := rand.New(rand.NewPCG(28, 6))
	for range 20 {
		var l []api.Version
		for range 100 {
			l = storetest.Step(l, n.IntN)
			compare(t, l)
		}
	}
}

// All 5120 records are answered without going through all versions for each.
func TestRecordsOfAWholeStore(t *testing.T) {
	l := storetest.Whole()
	for range 20 {
		got, e := living.Records(l)
		if len(got) != 5120 || e != api.OK || got[0].Id != "n0" || got[5119].Id != "n999" {
			t.Fatal(len(got), e)
		}
	}
}

// P2: as all that is answered, records are new memory.
func TestRecordsAreNewMemory(t *testing.T) {
	l := storetest.Roomy(storetest.Of("b;1;k=1;a", "a;0;k=2;b", "b;1;k=3,m=4;", "c;0;;", "-c;0"))
	before := storetest.Room(l)
	got, _ := living.Records(l)
	for i := range got {
		storetest.Wipe([]api.Version{{Record: got[i]}})
	}
	if !reflect.DeepEqual(storetest.Room(l), before) {
		t.Error("the list is", storetest.Room(l), "was", before)
	}
}
