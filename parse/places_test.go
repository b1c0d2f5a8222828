package parse_test

import (
	"fmt"
	"math/rand/v2"
	"strings"
	"testing"

	"recast/api"
	"recast/parse"
	"recast/scan"
)

// pieces are the nodes of a tree, a node ahead of its kids: the kind, and the bytes of the source there, a blank as
// `_`; of one without bytes where it stands; None is a `-`, if it stands at 0.
func pieces(src string, n api.Node) []string {
	s := kindNames[n.Kind]
	switch {
	case n.Kind == api.NodeNone && n.From == 0 && n.To == 0:
	case n.From == n.To:
		s += fmt.Sprint("@", n.From)
	case n.From < 0 || n.To > len(src) || n.From > n.To:
		s += fmt.Sprint("@", n.From, "-", n.To)
	default:
		s += ":" + strings.ReplaceAll(src[n.From:n.To], " ", "_")
	}
	out := []string{s}
	for _, k := range n.Kids {
		out = append(out, pieces(src, k)...)
	}
	return out
}

// seePlaces holds the places of the nodes of sources against what is wanted.
func seePlaces(t *testing.T, of func(string) (api.Node, api.Fault), table [][2]string) {
	t.Helper()
	for _, x := range table {
		n, fault := of(x[0])
		if got := strings.Join(pieces(x[0], n), " "); fault.Code != 0 || got != x[1] {
			t.Errorf("P5.1: the places of %q: %v\n got %s\nwant %s", x[0], fault, got, x[1])
		}
	}
}

func TestTypePlaces(t *testing.T) {
	seePlaces(t, parse.Type, [][2]string{
		{"func ( ) ; ", "FuncType:func_(_) Types@7 Results@9"},
		{"func ( a , ) /**/ ;", "FuncType:func_(_a_,_) Types:a Ident:a Results@18"},
		{"func ( ... a , )", "FuncType:func_(_..._a_,_) Types:..._a Ident:a Results@16"},
		{"func ( b , ... a )", "FuncType:func_(_b_,_..._a_) Types:b_,_..._a Ident:b Ident:a Results@18"},
		{"func ( ) a  ", "FuncType:func_(_)_a Types@7 Results:a Ident:a"},
		{"func ( ) ( a , ) ", "FuncType:func_(_)_(_a_,_) Types@7 Results:(_a_,_) Ident:a"},
		{" * a . b ;", "Pointer:*_a_._b Selector:a_._b Ident:a Ident:b"},
		{" [ ] a", "Slice:[_]_a Ident:a"},
		{"chan ( a ) ", "Chan:chan_(_a_) Paren:(_a_) Ident:a"},
		{"struct { a b ; c . d ; } ;", "Struct:struct_{_a_b_;_c_._d_;_} Field:a_b Ident:a Ident:b Embed:c_._d Selector:c_._d Ident:c Ident:d"},
		{"interface { M ( ) ; N ( a , b , ) c ; I } ;", "Interface:interface_{_M_(_)_;_N_(_a_,_b_,_)_c_;_I_} Method:M_(_) Ident:M Types@16 Results@18 Method:N_(_a_,_b_,_)_c Ident:N Types:a_,_b Ident:a Ident:b Results:c Ident:c Embed:I Ident:I"},
		{"func()\n", "FuncType:func() Types@5 Results@6"},
		{"func() /* a\n*/", "FuncType:func() Types@5 Results@7"},
		{"func() // x", "FuncType:func() Types@5 Results@11"},
		{"interface { M ( ) }", "Interface:interface_{_M_(_)_} Method:M_(_) Ident:M Types@16 Results@18"},
		{"struct { a func ( ) ; }", "Struct:struct_{_a_func_(_)_;_} Field:a_func_(_) Ident:a FuncType:func_(_) Types@18 Results@20"},
	})
}

func TestValuePlaces(t *testing.T) {
	seePlaces(t, parse.Value, [][2]string{
		{" a ; ", "Ident:a"},
		{"1 ", "Int:1"},
		{"\"a\\n\" ", "Str:\"a\\n\""},
		{"( a ) ;", "Paren:(_a_) Ident:a"},
		{"a . b ", "Selector:a_._b Ident:a Ident:b"},
		{"a . ( b ) ", "Assert:a_._(_b_) Ident:a Ident:b"},
		{"a [ b , c , ] ", "Index:a_[_b_,_c_,_] Ident:a Ident:b Ident:c"},
		{"f ( ) ", "Call:f_(_) Ident:f"},
		{"f ( a ... , ) ", "Call:f_(_a_..._,_) Ident:f Ident:a"},
		{"T { a : b , c , } ", "Composite:T_{_a_:_b_,_c_,_} Ident:T Keyed:a_:_b Ident:a Ident:b Ident:c"},
		{"p . T { } ", "Composite:p_._T_{_} Selector:p_._T Ident:p Ident:T"},
		{"[ ] T { } ", "Composite:[_]_T_{_} Slice:[_]_T Ident:T"},
		{"- a ", "Unary:-_a Ident:a"},
		{"a + b * c ", "Binary:a_+_b_*_c Ident:a Binary:b_*_c Ident:b Ident:c"},
		{"func ( a ... b , ) ( c , ) { d ; } ", "FuncLit:func_(_a_..._b_,_)_(_c_,_)_{_d_;_} Params:(_a_..._b_,_) Param:a_..._b Ident:a Ident:b Results:(_c_,_) Ident:c Block:{_d_;_} ExprStmt:d Ident:d"},
		{"func ( ) { } ", "FuncLit:func_(_)_{_} Params:(_) Results@9 Block:{_}"},
		{"func ( a b ) c { } ( d ) . e", "Selector:func_(_a_b_)_c_{_}_(_d_)_._e Call:func_(_a_b_)_c_{_}_(_d_) FuncLit:func_(_a_b_)_c_{_} Params:(_a_b_) Param:a_b Ident:a Ident:b Results:c Ident:c Block:{_} Ident:d Ident:e"},
		{"f ( [ ] a , chan b )", "Call:f_(_[_]_a_,_chan_b_) Ident:f Slice:[_]_a Ident:a Chan:chan_b Ident:b"},
	})
}

func TestFilePlaces(t *testing.T) {
	seePlaces(t, parse.File, [][2]string{
		{"// x\n package a ; // y", "File:package_a Ident:a"},
		{"package a ; import \"b\" ; var x = 1 ; ", "File:package_a_;_import_\"b\"_;_var_x_=_1 Ident:a Import:import_\"b\" Var:var_x_=_1 Ident:x - Int:1"},
		{"package a ; var x T ; const y T = 1 ; const z = 2 ; type T U ;", "File:package_a_;_var_x_T_;_const_y_T_=_1_;_const_z_=_2_;_type_T_U Ident:a Var:var_x_T Ident:x Ident:T - Const:const_y_T_=_1 Ident:y Ident:T Int:1 Const:const_z_=_2 Ident:z - Int:2 Type:type_T_U Ident:T Ident:U"},
		{"package a ; func f ( ) { } ;", "File:package_a_;_func_f_(_)_{_} Ident:a Func:func_f_(_)_{_} - Ident:f - Params:(_) Results@23 Block:{_}"},
		{"package a ; func ( t * T ) f ( a b ) c { } ", "File:package_a_;_func_(_t_*_T_)_f_(_a_b_)_c_{_} Ident:a Func:func_(_t_*_T_)_f_(_a_b_)_c_{_} Recv:(_t_*_T_) Ident:t Pointer:*_T Ident:T Ident:f - Params:(_a_b_) Param:a_b Ident:a Ident:b Results:c Ident:c Block:{_}"},
		{"package a ; func ( t T ) f ( ) ( c , ) { ; } ", "File:package_a_;_func_(_t_T_)_f_(_)_(_c_,_)_{_;_} Ident:a Func:func_(_t_T_)_f_(_)_(_c_,_)_{_;_} Recv:(_t_T_) Ident:t Ident:T Ident:f - Params:(_) Results:(_c_,_) Ident:c Block:{_;_}"},
		{"package a ; func f [ A b | c , B d , ] ( ) { }", "File:package_a_;_func_f_[_A_b_|_c_,_B_d_,_]_(_)_{_} Ident:a Func:func_f_[_A_b_|_c_,_B_d_,_]_(_)_{_} - Ident:f TParams:[_A_b_|_c_,_B_d_,_] TParam:A_b_|_c Ident:A Union:b_|_c Ident:b Ident:c TParam:B_d Ident:B Ident:d Params:(_) Results@43 Block:{_}"},
	})
}

func TestStatementPlaces(t *testing.T) {
	for _, x := range [][2]string{
		{"{ ; a ; } ;", "Block:{_;_a_;_} ExprStmt:a Ident:a"},
		{"c <- d ;", "Send:c_<-_d Ident:c Ident:d"},
		{"a , b = c , d ;", "Assign:a_,_b_=_c_,_d Exprs:a_,_b Ident:a Ident:b Exprs:c_,_d Ident:c Ident:d"},
		{"a += b ;", "Assign:a_+=_b Exprs:a Ident:a Exprs:b Ident:b"},
		{"a ++ ;", "IncDec:a_++ Ident:a"},
		{"a , b := c ;", "Define:a_,_b_:=_c Exprs:a_,_b Ident:a Ident:b Exprs:c Ident:c"},
		{"go f ( ) ;", "Go:go_f_(_) Call:f_(_) Ident:f"},
		{"defer f ( ) ;", "Defer:defer_f_(_) Call:f_(_) Ident:f"},
		{"return ;", "Return:return"},
		{"return a , b ;", "Return:return_a_,_b Ident:a Ident:b"},
		{"break ; continue ;", "Break:break Continue:continue"},
		{"if a { } ;", "If:if_a_{_} - Ident:a Block:{_} -"},
		{"if a ; b { } else { } ;", "If:if_a_;_b_{_}_else_{_} ExprStmt:a Ident:a Ident:b Block:{_} Block:{_}"},
		{"if a { } else if b { } ;", "If:if_a_{_}_else_if_b_{_} - Ident:a Block:{_} If:if_b_{_} - Ident:b Block:{_} -"},
		{"for { } ;", "For:for_{_} - - - Block:{_}"},
		{"for a { } ;", "For:for_a_{_} - Ident:a - Block:{_}"},
		{"for a ; b ; c { } ;", "For:for_a_;_b_;_c_{_} ExprStmt:a Ident:a Ident:b ExprStmt:c Ident:c Block:{_}"},
		{"for range a { } ;", "Range:for_range_a_{_} - - Ident:a Block:{_}"},
		{"for a , b := range c { } ;", "Range:for_a_,_b_:=_range_c_{_} Ident:a Ident:b Ident:c Block:{_}"},
		{"switch a { } ;", "Switch:switch_a_{_} Ident:a"},
		{"switch a { case b , c : d ; e ; ; default : ; case f : { } } ;", "Switch:switch_a_{_case_b_,_c_:_d_;_e_;_;_default_:_;_case_f_:_{_}_} Ident:a Case:case_b_,_c_:_d_;_e Exprs:b_,_c Ident:b Ident:c ExprStmt:d Ident:d ExprStmt:e Ident:e Case:default_: - Case:case_f_:_{_} Exprs:f Ident:f Block:{_}"},
		{"select { } ;", "Select:select_{_}"},
		{"select { case a <- b : ; case <- c : d ; case e , f := <- g : default : } ;", "Select:select_{_case_a_<-_b_:_;_case_<-_c_:_d_;_case_e_,_f_:=_<-_g_:_default_:_} Comm:case_a_<-_b_: Send:a_<-_b Ident:a Ident:b Comm:case_<-_c_:_d Receive:<-_c - - Ident:c ExprStmt:d Ident:d Comm:case_e_,_f_:=_<-_g_: Receive:e_,_f_:=_<-_g Ident:e Ident:f Ident:g Comm:default_: -"},
		{"select { case e := <- - g : h }", "Select:select_{_case_e_:=_<-_-_g_:_h_} Comm:case_e_:=_<-_-_g_:_h Receive:e_:=_<-_-_g Ident:e - Unary:-_g Ident:g ExprStmt:h Ident:h"},
		{"var x T ; const c = 1 ;", "Var:var_x_T Ident:x Ident:T - Const:const_c_=_1 Ident:c - Int:1"},
	} {
		src := ahead + " " + x[0] + " }"
		n, fault := parse.File(src)
		if fault.Code != 0 {
			t.Errorf("P5.1: the fault of %q is %v", x[0], fault)
			continue
		}
		if got := strings.Join(pieces(src, n.Kids[1].Kids[5])[1:], " "); got != x[1] {
			t.Errorf("P5.1: the places of %q:\n got %s\nwant %s", x[0], got, x[1])
		}
	}
}

// ordered holds a tree against P5.3: kids stand in order, within their node, and share no byte.
func ordered(t *testing.T, src string, n api.Node) {
	t.Helper()
	at := n.From
	for _, k := range n.Kids {
		if k.From == k.To {
			if none := k.Kind == api.NodeNone; none != (k.To == 0) || !none && k.From < at {
				t.Fatalf("P5.3: in %q %s stands at %d", src, kindNames[k.Kind], k.From)
			}
			continue
		}
		if k.From < at || k.To < k.From || k.To > n.To {
			t.Fatalf("P5.3: in %q %s %d to %d does not stand in order in %s %d to %d", src, kindNames[k.Kind], k.From, k.To, kindNames[n.Kind], n.From, n.To)
		}
		at = k.To
		ordered(t, src, k)
	}
}

// covers holds a File against P5.3: all tokens but TokSemi and TokEnd lie within it.
func covers(t *testing.T, src string, n api.Node) {
	t.Helper()
	tokens, _ := scan.Tokens(src)
	if n.From != tokens[0].From {
		t.Fatalf("P5.3: the File of %q begins at %d", src, n.From)
	}
	to := 0
	for _, x := range tokens {
		if x.Kind != api.TokSemi && x.Kind != api.TokEnd {
			to = x.To
		}
	}
	if n.To != to {
		t.Fatalf("P5.3: the File of %q ends at %d, its last token at %d", src, n.To, to)
	}
}

// respaced is a source with the same tokens, and other blanks and remarks between them; none has a line's end.
func respaced(random *rand.Rand, src string) string {
	var out strings.Builder
	gap := func() {
		out.WriteString([]string{" ", "\t", " /**/", " /* { */ /* \" */", "\r  "}[random.IntN(5)])
	}
	tokens, _ := scan.Tokens(src)
	for _, x := range tokens {
		gap()
		if x.Text == "\n" && x.Kind == api.TokSemi {
			out.WriteString("\n")
		} else {
			out.WriteString(src[x.From:x.To])
		}
	}
	gap()
	return out.String()
}

// moved holds two trees against each other: they differ in places alone, and these are those of the same tokens.
func moved(t *testing.T, a, b api.Node, from, to map[int]int) {
	t.Helper()
	if a.Kind != b.Kind || a.Text != b.Text || len(a.Kids) != len(b.Kids) {
		t.Fatalf("P5.3: %s became %s", shown(a), shown(b))
	}
	bytes := a.From < a.To
	if bytes && (from[a.From] != b.From || to[a.To] != b.To) || !bytes && a.Kind != api.NodeNone && (from[a.From] != b.From || b.To != b.From) {
		t.Fatalf("P5.3: %s went from %d to %d to %d to %d", shown(a), a.From, a.To, b.From, b.To)
	}
	for i := range a.Kids {
		moved(t, a.Kids[i], b.Kids[i], from, to)
	}
}

// seeMoved moves blanks and remarks of a source about.
func seeMoved(t *testing.T, random *rand.Rand, form, src string) {
	t.Helper()
	other := respaced(random, src)
	a, _ := calls[form](src)
	b, fault := calls[form](other)
	before, _ := scan.Tokens(src)
	behind, _ := scan.Tokens(other)
	if fault.Code != 0 || len(before) != len(behind) {
		t.Fatalf("P5.3: %s of\n%s\nis %v: it was\n%s", form, other, fault, src)
	}
	from, to := map[int]int{}, map[int]int{}
	for i, x := range before {
		// A TokEnd may stand where a TokSemi does, which is the next token of what stands ahead of both.
		if _, known := from[x.From]; !known {
			from[x.From] = behind[i].From
		}
		if x.From < x.To {
			to[x.To] = behind[i].To
		}
	}
	moved(t, a, b, from, to)
}
