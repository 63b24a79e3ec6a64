package stripe

import (
	"math"
	"slices"
	"strconv"
	"strings"
	"testing"

	"quipu/api"
)

const (
	// blocks is how many blocks there are.
	blocks = 24
	// maxMoves is how many moves a script may have.
	maxMoves = 100
)

// drawn has, of so many discs, what stands where: a line for each row, a word for each disc: a block, a check (c) or nothing (-).
func drawn(d int) [][]string {
	text := map[int]string{
		3: "0 1 c/2 c 3/c 4 5/6 7 c/8 c 9/c 10 11/12 13 c/14 c 15/c 16 17/18 19 c/20 c 21/c 22 23",
		4: "0 1 2 c/3 4 c 5/6 c 7 8/c 9 10 11/12 13 14 c/15 16 c 17/18 c 19 20/c 21 22 23",
		5: "0 1 2 3 c/4 5 6 c 7/8 9 c 10 11/12 c 13 14 15/c 16 17 18 19/20 21 22 23 c",
		6: "0 1 2 3 4 c/5 6 7 8 c 9/10 11 12 c 13 14/15 16 c 17 18 19/20 c 21 22 23 -",
	}[d]
	var rows [][]string
	for _, line := range strings.Split(text, "/") {
		rows = append(rows, strings.Fields(line))
	}
	return rows
}

// model has the blocks and which disc is lost, and nothing of what stands on discs.
type model struct {
	d     int
	vals  [blocks]byte
	lost  bool
	which int
}

// told does a move, and answers what is told of it.
func (m *model) told(move api.Move) api.Done {
	onBlock := move.Kind == api.DWrite || move.Kind == api.DRead
	onDisc := move.Kind == api.DLose || move.Kind == api.DRenew
	if !onBlock && !onDisc {
		return api.Done{Code: api.ErrKind}
	}
	if move.Block < 0 || onBlock && move.Block > 23 || onDisc && move.Block > m.d-1 {
		return api.Done{Code: api.ErrArg}
	}
	isLost := m.lost && m.which == move.Block
	if move.Kind == api.DLose && m.lost || move.Kind == api.DRenew && !isLost {
		return api.Done{Code: api.ErrHold}
	}
	switch move.Kind {
	case api.DWrite:
		m.vals[move.Block] = move.Val
	case api.DRead:
		return api.Done{Val: m.vals[move.Block]}
	case api.DLose:
		m.lost, m.which = true, move.Block
	case api.DRenew:
		m.lost = false
	}
	return api.Done{}
}

// discs has what stands on each disc, by what is drawn.
func (m *model) discs() [][]byte {
	all := make([][]byte, m.d)
	for _, row := range drawn(m.d) {
		var check byte
		for _, word := range row {
			if block, err := strconv.Atoi(word); err == nil {
				check ^= m.vals[block]
			}
		}
		for disc, word := range row {
			var val byte
			if block, err := strconv.Atoi(word); err == nil {
				val = m.vals[block]
			} else if word == "c" {
				val = check
			}
			if m.lost && disc == m.which {
				val = 0
			}
			all[disc] = append(all[disc], val)
		}
	}
	return all
}

// sameDiscs tells whether the same stands on all discs.
func sameDiscs(a, b [][]byte) bool {
	return slices.EqualFunc(a, b, func(x, y []byte) bool { return slices.Equal(x, y) })
}

// checkPlaced tells it if Place does not answer this.
func checkPlaced(t *testing.T, d, block, wantDisc, wantRow int, want api.Errno) {
	t.Helper()
	disc, row, err := Place(d, block)
	if disc != wantDisc || row != wantRow || err != want {
		t.Errorf("Place(%d, %d) is %d, %d, %d and not %d, %d, %d", d, block, disc, row, err, wantDisc, wantRow, want)
	}
}

// checkPlay tells it if Play does not answer this.
func checkPlay(t *testing.T, d int, script []api.Move, wantTold []api.Done, wantDiscs [][]byte, want api.Errno) {
	t.Helper()
	told, discs, err := Play(d, script)
	if err != want || !slices.Equal(told, wantTold) || !sameDiscs(discs, wantDiscs) {
		t.Errorf("Play(%d, %v) is %v, %v, %d and not %v, %v, %d", d, script, told, discs, err, wantTold, wantDiscs, want)
	}
}

// checkModel tells it if Play does not answer what the model does.
func checkModel(t *testing.T, d int, script []api.Move) {
	t.Helper()
	m := model{d: d}
	var told []api.Done
	for _, move := range script {
		told = append(told, m.told(move))
	}
	checkPlay(t, d, script, told, m.discs(), api.OK)
}

// write, read, lose and renew are moves.
func write(block int, val byte) api.Move {
	return api.Move{Kind: api.DWrite, Block: block, Val: val}
}

func read(block int) api.Move {
	return api.Move{Kind: api.DRead, Block: block}
}

func lose(disc int) api.Move {
	return api.Move{Kind: api.DLose, Block: disc}
}

func renew(disc int) api.Move {
	return api.Move{Kind: api.DRenew, Block: disc}
}

// writeAll has moves that write all blocks, each another byte.
func writeAll(times byte) []api.Move {
	var script []api.Move
	for block := range blocks {
		script = append(script, write(block, times*byte(block)+101))
	}
	return script
}

// readAll has moves that read all blocks.
func readAll() []api.Move {
	var script []api.Move
	for block := range blocks {
		script = append(script, read(block))
	}
	return script
}

// someMoves has moves of every kind, right ones and wrong ones, that follow from seed alone.
func someMoves(seed uint32, d, count int) []api.Move {
	next := func(n int) int {
		seed = seed*1664525 + 1013904223
		return int(seed>>16) % n
	}
	var script []api.Move
	for range count {
		kind := next(8)
		block := next(26) - 1
		if kind == api.DLose || kind == api.DRenew {
			block = next(d+2) - 1
		}
		if kind > api.DRenew+1 {
			kind = api.DWrite + next(2)
		}
		script = append(script, api.Move{Kind: kind, Block: block, Val: byte(next(256))})
	}
	return script
}

func TestPlaceOfEachBlock(t *testing.T) {
	for d := 3; d <= 6; d++ {
		seen := 0
		for row, words := range drawn(d) {
			for disc, word := range words {
				if block, err := strconv.Atoi(word); err == nil {
					checkPlaced(t, d, block, disc, row, api.OK)
					seen++
				}
			}
		}
		if seen != blocks {
			t.Errorf("%d blocks are drawn for %d discs", seen, d)
		}
	}
}

func TestPlaceExample(t *testing.T) {
	checkPlaced(t, 3, 0, 0, 0, api.OK)
	checkPlaced(t, 3, 2, 0, 1, api.OK)
	checkPlaced(t, 3, 3, 2, 1, api.OK)
}

func TestPlaceErrors(t *testing.T) {
	for _, d := range []int{math.MinInt, -3, -1, 0, 1, 2, 7, 8, math.MaxInt} {
		for _, block := range []int{0, 23, -1, 24, math.MinInt, math.MaxInt} {
			checkPlaced(t, d, block, 0, 0, api.ErrRange)
		}
	}
	for d := 3; d <= 6; d++ {
		for _, block := range []int{math.MinInt, -2, -1, 24, 25, math.MaxInt} {
			checkPlaced(t, d, block, 0, 0, api.ErrArg)
		}
	}
}

func TestPlayOfNoMoves(t *testing.T) {
	rows := map[int]int{3: 12, 4: 8, 5: 6, 6: 5}
	for d := 3; d <= 6; d++ {
		zeros := make([][]byte, d)
		for disc := range zeros {
			zeros[disc] = make([]byte, rows[d])
		}
		checkPlay(t, d, nil, nil, zeros, api.OK)
		checkPlay(t, d, []api.Move{}, nil, zeros, api.OK)
	}
}

func TestPlayWritten(t *testing.T) {
	script := []api.Move{write(0, 5), write(1, 3), write(3, 7), read(0), read(1), read(2), read(3), write(1, 255), read(1)}
	told := []api.Done{{}, {}, {}, {Val: 5}, {Val: 3}, {}, {Val: 7}, {}, {Val: 255}}
	discs := [][]byte{
		{5, 0, 0, 0, 0, 0, 0, 0, 0, 0, 0, 0},
		{255, 7, 0, 0, 0, 0, 0, 0, 0, 0, 0, 0},
		{250, 7, 0, 0, 0, 0, 0, 0, 0, 0, 0, 0},
	}
	checkPlay(t, 3, script, told, discs, api.OK)
}

func TestPlayOnLostDisc(t *testing.T) {
	script := []api.Move{write(0, 5), write(1, 3), lose(0), read(0), write(0, 9), read(0), read(1), write(2, 4)}
	told := []api.Done{{}, {}, {}, {Val: 5}, {}, {Val: 9}, {Val: 3}, {}}
	discs := [][]byte{
		{0, 0, 0, 0, 0, 0, 0, 0},
		{3, 0, 0, 0, 0, 0, 0, 0},
		{4, 0, 0, 0, 0, 0, 0, 0},
		{14, 0, 0, 0, 0, 0, 0, 0},
	}
	checkPlay(t, 4, script, told, discs, api.OK)

	script = append(script, renew(0), read(0), read(1), read(2))
	told = append(told, api.Done{}, api.Done{Val: 9}, api.Done{Val: 3}, api.Done{Val: 4})
	discs[0][0] = 9
	checkPlay(t, 4, script, told, discs, api.OK)
}

func TestPlayOnLostCheck(t *testing.T) {
	script := []api.Move{write(0, 5), lose(2), write(0, 6), write(1, 1), read(0), read(1)}
	told := []api.Done{{}, {}, {}, {}, {Val: 6}, {Val: 1}}
	discs := [][]byte{
		{6, 0, 0, 0, 0, 0, 0, 0, 0, 0, 0, 0},
		{1, 0, 0, 0, 0, 0, 0, 0, 0, 0, 0, 0},
		{0, 0, 0, 0, 0, 0, 0, 0, 0, 0, 0, 0},
	}
	checkPlay(t, 3, script, told, discs, api.OK)

	discs[2][0] = 7
	checkPlay(t, 3, append(script, renew(2)), append(told, api.Done{}), discs, api.OK)
}

func TestPlayHeld(t *testing.T) {
	script := []api.Move{renew(0), renew(2), lose(1), lose(1), lose(0), lose(2), renew(0), renew(2), renew(1), renew(1), lose(0)}
	var told []api.Done
	for _, code := range []api.Errno{api.ErrHold, api.ErrHold, 0, api.ErrHold, api.ErrHold, api.ErrHold, api.ErrHold, api.ErrHold, 0, api.ErrHold, 0} {
		told = append(told, api.Done{Code: code})
	}
	zeros := make([][]byte, 3)
	for disc := range zeros {
		zeros[disc] = make([]byte, 12)
	}
	checkPlay(t, 3, script, told, zeros, api.OK)
}

func TestPlayWrongMoves(t *testing.T) {
	far := []int{math.MinInt, -2, -1, 24, 25, math.MaxInt}
	for d := 3; d <= 6; d++ {
		for _, first := range [][]api.Move{writeAll(7), append(writeAll(7), lose(1))} {
			var script []api.Move
			var codes []api.Errno
			for _, block := range far {
				script = append(script, write(block, 200), read(block))
				codes = append(codes, api.ErrArg, api.ErrArg)
			}
			for _, disc := range append(far, d, d+1) {
				script = append(script, lose(disc), renew(disc))
				codes = append(codes, api.ErrArg, api.ErrArg)
			}
			for _, kind := range []int{math.MinInt, -1, 0, 5, 6, math.MaxInt} {
				for _, block := range []int{0, -1, 24} {
					script = append(script, api.Move{Kind: kind, Block: block, Val: 200})
					codes = append(codes, api.ErrKind)
				}
			}
			checkCodes(t, d, first, script, codes)
		}
	}
}

// checkCodes tells it if the moves of script, behind those of first, are not told these errors, or if they change anything.
func checkCodes(t *testing.T, d int, first, script []api.Move, codes []api.Errno) {
	t.Helper()
	told, discs, err := Play(d, first)
	if err != api.OK {
		t.Fatalf("Play(%d, %v) is told %d", d, first, err)
	}
	for _, code := range codes {
		told = append(told, api.Done{Code: code})
	}
	checkPlay(t, d, slices.Concat(first, script), told, discs, api.OK)
}

func TestPlayFieldsThatAreNotNeeded(t *testing.T) {
	script := []api.Move{write(1, 8), {Kind: api.DLose, Block: 0, Val: 77}, {Kind: api.DRead, Block: 0, Val: 78}, {Kind: api.DRenew, Block: 0, Val: 79}}
	checkModel(t, 3, script)
}

func TestPlayErrors(t *testing.T) {
	long := make([]api.Move, maxMoves+1)
	for _, d := range []int{math.MinInt, -3, -1, 0, 1, 2, 7, 8, math.MaxInt} {
		checkPlay(t, d, nil, nil, nil, api.ErrRange)
		checkPlay(t, d, []api.Move{write(0, 1), {}}, nil, nil, api.ErrRange)
		checkPlay(t, d, long, nil, nil, api.ErrRange)
	}
	for d := 3; d <= 6; d++ {
		checkPlay(t, d, long, nil, nil, api.ErrLarge)
		checkPlay(t, d, someMoves(uint32(d), d, 1000), nil, nil, api.ErrLarge)
		checkModel(t, d, long[:maxMoves])
	}
}

func TestNoDiscIsMissed(t *testing.T) {
	for d := 3; d <= 6; d++ {
		for disc := range d {
			checkModel(t, d, slices.Concat(writeAll(5), []api.Move{lose(disc)}, readAll()))
			checkModel(t, d, slices.Concat(writeAll(5), []api.Move{lose(disc)}, writeAll(11), readAll()))
			checkModel(t, d, slices.Concat(writeAll(5), []api.Move{lose(disc)}, writeAll(11), []api.Move{renew(disc)}, readAll()))
			for other := range d {
				checkModel(t, d, slices.Concat([]api.Move{lose(disc)}, writeAll(13), []api.Move{renew(disc), lose(other)}, readAll()))
			}
		}
	}
}

func TestPlayEachShortScript(t *testing.T) {
	moves := []api.Move{write(0, 5), write(0, 6), write(1, 9), write(2, 3), read(0), read(1), lose(0), lose(1), lose(2), renew(0), renew(1), renew(2), {}}
	for d := 3; d <= 4; d++ {
		scripts := [][]api.Move{nil}
		for range 4 {
			var longer [][]api.Move
			for _, script := range scripts {
				for _, move := range moves {
					longer = append(longer, append(slices.Clone(script), move))
				}
			}
			scripts = longer
		}
		for _, script := range scripts {
			checkModel(t, d, script)
		}
	}
}

func TestPlaySomeLongScripts(t *testing.T) {
	for d := 3; d <= 6; d++ {
		for seed := range uint32(300) {
			checkModel(t, d, someMoves(seed, d, maxMoves))
		}
	}
}

func TestListsStayAsTheyAre(t *testing.T) {
	for d := 3; d <= 6; d++ {
		all := someMoves(99, d, maxMoves)
		script := slices.Clone(all)
		for n := range maxMoves {
			checkModel(t, d, script[:n])
		}
		if !slices.Equal(script, all) {
			t.Errorf("Play changes the script of %d discs", d)
		}
	}
}

func TestAnswersAreNew(t *testing.T) {
	script := slices.Concat(writeAll(3), []api.Move{lose(1)}, readAll())
	for d := 3; d <= 6; d++ {
		told, discs, err := Play(d, script)
		if err != api.OK {
			t.Fatalf("Play(%d, ..) is told %d", d, err)
		}
		told = told[:cap(told)]
		for i := range told {
			told[i] = api.Done{Code: api.ErrSum, Val: 66}
		}
		for disc := range discs {
			spoilt := discs[disc][:cap(discs[disc])]
			for row := range spoilt {
				spoilt[row] = byte(disc + 1)
			}
		}
		for disc := range discs {
			if slices.ContainsFunc(discs[disc], func(val byte) bool { return val != byte(disc+1) }) {
				t.Errorf("disc %d of %d shares its memory with another one", disc, d)
			}
		}
		checkModel(t, d, script)
	}
}
