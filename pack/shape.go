package pack

import "spandrel/api"

// Which levels a kind's bytes tell.
const (
	noLevels    = 0
	oneLevel    = 1 // that one
	countLevels = 2 // how many, and each
)

// shape is what the bytes of a kind tell; kids is how many kids stand behind an At.
type shape struct {
	num, at bool
	levels  int
	kids    func(at int) int
}

// few is so many kids, whatever At is.
func few(n int) func(at int) int { return func(int) int { return n } }

// shapes is what each kind has.
func shapes() map[api.TermKind]shape {
	none, one, two, three := few(0), few(1), few(2), few(3)
	return map[api.TermKind]shape{
		api.KVar:     {num: true, kids: none},
		api.KSort:    {levels: oneLevel, kids: none},
		api.KConst:   {num: true, levels: countLevels, kids: none},
		api.KPi:      {kids: two},
		api.KLam:     {kids: two},
		api.KApp:     {kids: two},
		api.KLet:     {kids: three},
		api.KInd:     {num: true, at: true, levels: countLevels, kids: none},
		api.KCtor:    {num: true, at: true, levels: countLevels, kids: none},
		api.KRec:     {num: true, at: true, levels: countLevels, kids: none},
		api.KSelf:    {at: true, kids: none},
		api.KSigma:   {kids: two},
		api.KPair:    {kids: two},
		api.KFst:     {kids: one},
		api.KSnd:     {kids: one},
		api.KTree:    {kids: two},
		api.KSup:     {kids: two},
		api.KTreeRec: {kids: few(5)},
		api.KId:      {kids: three},
		api.KRefl:    {kids: none},
		api.KJ:       {kids: few(6)},
		api.KFin:     {num: true, kids: none},
		api.KElem:    {num: true, at: true, kids: none},
		api.KCase:    {at: true, kids: func(at int) int { return at + 2 }},
	}
}
