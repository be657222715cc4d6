package tests

import (
	"math/rand"
	"testing"

	"loop.example/g00005/impl"
)

// holdLevelsAlike is for TermSorts: they are the same just where their levels
// have the same number for all values.
func holdLevelsAlike(t *testing.T, a, b impl.Level, same bool) {
	t.Helper()
	got, work, code := impl.ConvTypes(impl.Env{}, nil, universe(a), universe(b), 5)
	if got != same || work != 1 || code != 0 {
		t.Errorf("%s and %s: %v, work %d, code %d", impl.LevelText(a), impl.LevelText(b), got, work, code)
	}
}

func TestConvOfSmallLevels(t *testing.T) {
	ways := allValues([]string{"u", "v"}, []int{0, 1, 2, 3, 4, 5})
	levels := smallLevels(4, "u", "v")
	for _, a := range levels {
		for _, b := range levels {
			x, y := numbersOf(a, ways), numbersOf(b, ways)
			holdLevelsAlike(t, a, b, allLeq(x, y) && allLeq(y, x))
		}
	}
}

func TestConvOfRandomLevels(t *testing.T) {
	r := rand.New(rand.NewSource(97))
	names := []string{"a", "b", "c", "d", "e", "f"}
	yes := 0
	for range 3000 {
		count := 1 + r.Intn(len(names))
		a := randomLevel(r, 1+r.Intn(12), names[:count])
		b := randomLevel(r, 1+r.Intn(12), names[:count])
		// often what is the same but for the order, and for what stands in it in vain
		switch r.Intn(4) {
		case 0:
			a, b = pair(impl.LevelMax, a, b), pair(impl.LevelMax, b, pair(impl.LevelMax, a, b))
		case 1:
			b = pair(impl.LevelMax, pair(impl.LevelImax, b, zero()), a)
		case 2:
			a, b = pair(impl.LevelImax, a, succ(b, 1)), pair(impl.LevelMax, succ(b, 1), a)
		}
		same := impl.LevelSame(a, b)
		if same {
			yes++
		}
		holdLevelsAlike(t, a, b, same)
	}
	if yes < 1000 || yes > 2900 {
		t.Errorf("%d are the same", yes)
	}
}

// Constants with several levels: each against its own.
func TestConvOfListsOfLevels(t *testing.T) {
	e := behind(convEnv(), declared(impl.KindAxiom, "many", "a b c", "*max(a,max(b,c))", ""))
	holdConvCases(t, askTypes, e, nil, []convCase{
		{"many{u,v,w}", "many{u,v,w}", true, 1, 0},
		{"many{max(u,u),imax(v,v),w}", "many{u,v,max(0,w)}", true, 1, 0},
		{"many{u,v,w}", "many{v,u,w}", false, 1, 0},
		{"many{u,v,w}", "many{u,v,v}", false, 1, 0},
		{"many{1,2,3}", "many{1,2,max(3,1)}", true, 1, 0},
		{"many{1,2,3}", "many{1,2,2}", false, 1, 0},
		{"many{1,u,11}", "many{1,u,1}", false, 1, 0},
		{"[any{2} many{u,v,1}]", "[any{max(2,1)} many{max(u,u),v,max(1,0)}]", true, 1, 0},
	})
}
