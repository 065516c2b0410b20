package aho

// state is a beginning of words: by which byte which longer one is reached, which state is the longest beginning that this one ends with (but itself), and which words end here.
type state struct {
	ways map[byte]int
	back int
	ends []int
}

// states are all beginnings of the words; the first one has no bytes, so no way leads to it.
type states []state

// start is the state of no bytes.
const start = 0

// statesOf are the words' states.
func statesOf(words [][]byte) states {
	s := states{newState()}
	for i, word := range words {
		end := s.add(word)
		s[end].ends = append(s[end].ends, i)
	}
	s.link()
	return s
}

// newState is one that no way leaves.
func newState() state { return state{ways: make(map[byte]int)} }

// add lays the ways of a word, as far as they aren't there, and is the state where they end.
func (s *states) add(word []byte) int {
	at := start
	for _, c := range word {
		to := (*s)[at].ways[c]
		if to == start {
			to = len(*s)
			(*s)[at].ways[c] = to
			*s = append(*s, newState())
		}
		at = to
	}
	return at
}

// link tells each state its back, the shorter ones ahead of the longer ones, as these need those.
func (s states) link() {
	row := []int{start}
	for i := 0; i < len(row); i++ {
		from := row[i]
		for c, to := range s[from].ways {
			row = append(row, to)
			if from != start {
				s[to].back = s.next(s[from].back, c)
			}
			s[to].ends = append(s[to].ends, s[s[to].back].ends...)
		}
	}
}

// next is the state that is reached by c: of the longest beginning that goes on with it, and that the bytes so far end with.
func (s states) next(at int, c byte) int {
	for at != start && s[at].ways[c] == start {
		at = s[at].back
	}
	return s[at].ways[c]
}
