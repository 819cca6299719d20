package crew_test

import (
	"testing"

	"weirgate/api"
	"weirgate/group"
)

// C1, Run and Count

func TestEachKind(t *testing.T) {
	for _, c := range [][3]string{
		{"map 0 n*n", "[[{a [1 25]} {b [16 9 16]} {c [4]}]]", "[6 6 6]"},
		{"filter 0 n>3", "[[{a [5]} {b [4 4]}]]", "[6 6 3]"},
		{"sub 0 n%3", "[[{a/1 [1]} {a/2 [5]} {b/0 [3]} {b/1 [4 4]} {c/-2 [-2]}]]", "[6 6 6]"},
		{"copy 0 0", "[[]]", "[6 6 0]"},
		{"copy 0 1", "[[{a [1 5]} {b [4 3 4]} {c [-2]}]]", "[6 6 6]"},
		{"copy 0 2", "[[{a [1 1 5 5]} {b [4 4 3 3 4 4]} {c [-2 -2]}]]", "[6 6 12]"},
		{"union 0", "[[{0:a [1 5]} {0:b [4 3 4]} {0:c [-2]}]]", "[6 6 6]"},
		{"fold 0 s*10+n", "[[{a [1 15]} {b [4 43 434]} {c [-2]}]]", "[6 6 6]"},
		{"every 0 2", "[[{a [6]} {b [7]}]]", "[6 6 2]"},
		{"every 0 1", "[[{a [1 5]} {b [4 3 4]} {c [-2]}]]", "[6 6 6]"},
		{"first 0", "[[{a [1]} {b [4]} {c [-2]}]]", "[6 6 3]"},
	} {
		for _, splits := range []string{"1", "3", "8"} {
			wantAnswers(t, "source "+splits+"\n"+c[0]+"\nsink 1\n", [][]api.Record{few()}, c[1], c[2])
		}
	}
	wantAnswers(t, "source 3\nsink 0\n", [][]api.Record{few()}, "[[{a [1 5]} {b [4 3 4]} {c [-2]}]]", "[6 6]")
}

func TestSeveralSinks(t *testing.T) {
	wantAnswers(t, "source 1\nsink 0\nmap 0 -n\nfilter 0 n>90\nsink 2\nsink 3\nsink 0\n", [][]api.Record{few()},
		"[[{a [1 5]} {b [4 3 4]} {c [-2]}] [{a [-1 -5]} {b [-4 -3 -4]} {c [2]}] [] [{a [1 5]} {b [4 3 4]} {c [-2]}]]",
		"[6 6 6 6 6 0 6]")
}

// Each Source has its own list, in their order, wherever it stands.
func TestSeveralSources(t *testing.T) {
	data := [][]api.Record{{rec("a", 1, 0)}, {rec("a", 2, 0), rec("b", 3, 0)}, nil, {rec("a", 4, 0)}}
	wantAnswers(t, "source 1\nsource 8\nsink 0\nsource 2\nsink 1\nsink 3\nunion 3 1 0\nsource 1\nsink 7\nsink 6\n", data,
		"[[{a [1]}] [{a [2]} {b [3]}] [] [{a [4]}] [{1:a [2]} {1:b [3]} {2:a [1]}]]",
		"[1 2 1 0 2 0 3 1 1 3]")
}

// What a node hands on all get that have it in From, and none has another's
// states.
func TestNodeThatSeveralHave(t *testing.T) {
	wantAnswers(t, "source 1\nfold 0 s+n\nfold 1 s+n\nfold 1 s+n\nsink 1\nsink 2\nsink 3\nsink 2\n", [][]api.Record{times(4, "a")},
		"[[{a [1 3 6 10]}] [{a [1 4 10 20]}] [{a [1 4 10 20]}] [{a [1 4 10 20]}]]", "[4 4 4 4 4 4 4 4]")
	wantAnswers(t, "source 1\nfirst 0\nevery 0 2\nunion 1 2 0\nsink 3\n", [][]api.Record{times(4, "a")},
		"[[{0:a [1]} {1:a [3 7]} {2:a [1 2 3 4]}]]", "[4 4 4 7 7]")
}

func TestNodeThatNobodyHas(t *testing.T) {
	wantAnswers(t, "source 1\nmap 0 n\ncopy 0 3\nfold 2 s+n\nsource 1\nsink 0\n", [][]api.Record{few(), times(3, "x")},
		"[[{a [1 5]} {b [4 3 4]} {c [-2]}]]", "[6 6 6 18 3 6]")
}

func TestUnionsOfUnions(t *testing.T) {
	wantAnswers(t, "source 1\nunion 0 0\nsink 1\n", [][]api.Record{times(2, "a")}, "[[{0:a [1 2]} {1:a [1 2]}]]", "[2 4 4]")
	wantAnswers(t, "source 1\nmap 0 -n\nunion 1 0 1 0\nfold 2 s+n\nsink 3\n", [][]api.Record{times(2, "a")},
		"[[{0:a [-1 -3]} {1:a [1 3]} {2:a [-1 -3]} {3:a [1 3]}]]", "[2 2 8 8 8]")
	wantAnswers(t, "source 1\nunion 0 0\nunion 1 1\nfirst 2\nsink 3\n", [][]api.Record{times(2, "a")},
		"[[{0:0:a [1]} {0:1:a [1]} {1:0:a [1]} {1:1:a [1]}]]", "[2 4 8 8 4]")
	wantAnswers(t, "source 1\nunion 0\nunion 1 0\nunion 2 1 0\nunion 3 2 1 0\nfold 4 s+n\nsink 5\n", [][]api.Record{times(2, "a")},
		"[[{0:0:0:0:a [1 3]} {0:0:1:a [1 3]} {0:1:0:a [1 3]} {0:2:a [1 3]} {1:0:0:a [1 3]} {1:1:a [1 3]} {2:0:a [1 3]} {3:a [1 3]}]]",
		"[2 2 4 8 16 16 16]")
}

func TestWithoutRecords(t *testing.T) {
	wantAnswers(t, "source 1\nsink 0\n", [][]api.Record{nil}, "[[]]", "[0 0]")
	wantAnswers(t, "source 1\nsource 1\nunion 0 1\nsink 2\nsink 0\n", [][]api.Record{{}, nil}, "[[] []]", "[0 0 0 0 0]")
	wantAnswers(t, "source 1\nsource 1\nunion 0 1\nsink 2\nsink 0\n", [][]api.Record{{}, times(2, "")}, "[[{1: [1 2]}] []]", "[0 2 2 2 0]")
	wantAnswers(t, everyKind, [][]api.Record{nil, nil}, "[[] []]", "[0 0 0 0 0 0 0 0 0 0 0 0]")
}

// By bytes, whichever worker has a key.
func TestByBytes(t *testing.T) {
	var data []api.Record
	for i, key := range []string{"b", "a\xff", "a", "ab", "\xff", "", "B", "a\x00", "a/", "10", "9", "-1"} {
		data = append(data, rec(key, i, 0), rec(key, -i, 0))
	}
	wantAnswers(t, "source 4\nsink 0\n", [][]api.Record{data},
		"[[{ [5 -5]} {-1 [11 -11]} {10 [9 -9]} {9 [10 -10]} {B [6 -6]} {a [2 -2]} {a\x00 [7 -7]} {a/ [8 -8]} {ab [3 -3]} {a\xff [1 -1]} {b [0 0]} {\xff [4 -4]}]]",
		"[24 24]")
}

// What has too long a key is got, and not handed on.
func TestKeysThatGrowTooLong(t *testing.T) {
	key := long(36)
	data := [][]api.Record{{rec(key, 1, 0), rec(key+"k", 2, 0), rec(key, 12, 0), rec(key[1:], -3, 0)}}
	wantAnswers(t, "source 1\nsub 0 n\nunion 1\nsink 2\n", data, "[[{0:"+key[1:]+"/-3 [-3]} {0:"+key+"/1 [1]}]]", "[4 4 4 2]")
	wantAnswers(t, "source 1\nunion 0\nunion 1\nunion 2\nsink 3\n", [][]api.Record{times(2, key)}, "[[]]", "[2 2 2 2 0]")
}

// A key that only a Sub makes of others may be one that another worker has.
func TestKeysThatMoveAmongWorkers(t *testing.T) {
	var data []api.Record
	for i := range 60 {
		data = append(data, rec(byGroup[i%5:i%5+1], i, 0))
	}
	seen := map[int]int{}
	for _, r := range data {
		seen[group.Of(r.Key+"/0")]++
	}
	if len(seen) < 4 {
		t.Fatalf("too few groups: %v", seen)
	}
	l := nodes(t, "source 2\nsub 0 0\nfold 1 s*3+n\nsub 2 0\nfold 3 s*5+n\nunion 4 2 4\nfold 5 s*7-n\nsink 6\n")
	for _, workers := range someWorkers() {
		wantAsAll(t, l, [][]api.Record{data}, workers)
		wantCount(t, l, [][]api.Record{data}, workers, []int{60, 60, 60, 60, 60, 180, 180, 180})
	}
}

// Many records of one key, and one of each of many keys.
func TestManyOfOneKeyAndOneOfManyKeys(t *testing.T) {
	var apart []api.Record
	for i := range api.MaxData {
		apart = append(apart, rec(long(i%40)+string(rune('a'+i/40)), i, i))
	}
	for _, list := range [][]api.Record{times(api.MaxData, "a"), times(api.MaxData, long(api.MaxKey)), apart, inTurn(api.MaxData)} {
		l := nodes(t, "source 5\nfold 0 s*3+n\nevery 0 7\nfirst 1\nsub 1 n%2\ncopy 4 2\nsink 1\nsink 2\nsink 3\nsink 5\n")
		for _, workers := range someWorkers() {
			wantAsAll(t, l, [][]api.Record{list}, workers)
		}
	}
}

// As many as may flow, through as many nodes as may be, by all numbers of
// workers: nobody waits for ever for another one.
func TestMost(t *testing.T) {
	l := nodes(t, "source 1\nsource 8\ncopy 0 3\ncopy 2 2\nunion 3 1 1\nfold 4 s+n\nunion 5 5\nfold 5 s-n\nmap 7 n\nmap 8 n\nmap 9 n\nsink 10\n")
	data := [][]api.Record{inTurn(66), inTurn(api.MaxData)}
	for workers := 1; workers <= api.Groups; workers++ {
		wantAsAll(t, l, data, workers)
		wantCount(t, l, data, workers, []int{66, 300, 66, 198, 996, 996, 1992, 996, 996, 996, 996, 996})
	}
}
