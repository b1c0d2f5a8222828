/-
  types.Subst with arguments: its step.
-/
import Derived.Test.YtcmnhkopmkaiaaaFrh
import Derived.Test.YtcmnhkopmkaiaaaKdp
import Derived.Test.YtcmnhkopmkaiaaaWkp
namespace Go.Proofs.Ytcmnhkopmkaiaaa
open Go.RowKit
attribute [local go_sem ↓] Go.wp_at_zero Go.wp_at_succ
theorem results_duo {P : Program} {f : Func} {tmps : Array Value} {W : World} {a b : Nat} {u v : Value} (hf : f.results = #[.tmp a, .tmp b]) (ha : tmps.getD a undef = u) (hb : tmps.getD b undef = v) : (results f tmps).run P W = .ok (.tuple #[u, v]) W := by
  unfold results
  rw [hf]
  have ha2 : tmps[a]?.getD undef = u := by rw [← ha]; simp
  have hb2 : tmps[b]?.getD undef = v := by rw [← hb]; simp
  simp [ha2, hb2]
/-- what a step of Subst answers, where nothing is put in -/
structure SuQ (w : World) (l : List Addr) (e : Ending) (w' : World) : Prop where
  ex : ∃ a c, e = .returned (.tuple #[.slice a l.length c, .bool true]) ∧ w'.ownsRow w.heap.size 40 1 (.slice a l.length c) l.length (l.map pv)
  bl : Below w.heap.size w w'
set_option maxRecDepth 100000 in
set_option maxHeartbeats 4000000 in
theorem sb_keep {w : World} {b o kb ko n c AB la ca : Nat} {aa : Option Addr} {k N : Int} {a : Option Addr} (h0 : w.cell? ⟨b, o, none⟩ = some (.int .i64 k)) (h2 : w.cell? ⟨b, o + 2, none⟩ = some (.int .i64 N)) (h6 : w.cell? ⟨b, o + 6, none⟩ = some (.slice a n c)) (ha : 0 < n → a = some ⟨kb, ko, none⟩) (hn : n ≤ 1000000) (hA : w.cell? ⟨AB, 0, none⟩ = some (.slice aa la ca)) (hno : ¬ (k = 9 ∧ 0 ≤ N ∧ N < (la : Int))) :
    Calls Try.prog 26 #[pv ⟨b, o, none⟩, .pointer (some ⟨AB, 0, none⟩)] w (SuQ w (kidA kb ko n)) := by
  have HKD : Hid (∀ nq, Calls Try.prog 27 #[pv ⟨b, o, none⟩] (w.drewN nq) (KdQ (w.drewN nq) (kidA kb ko n))) := fun nq => kids_any (kept_cell (below_dn w nq) h6) ha hn
  clear h6 hn
  by_cases h9 : k = 9
  · subst h9
    by_cases hN : 0 ≤ N
    · have hNl : ¬ N < (la : Int) := fun h => hno ⟨rfl, hN, h⟩
      have z1 : decide ((0 : Int) ≤ N) = true := decide_eq_true hN
      have z2 : decide (N < (la : Int)) = false := decide_eq_false hNl
      clear hno
      clear ha
      go_enter Try.func26, Try.ntmps26
      go_wp2_with fail
      first | go_quiet (fail) | go_big_quiet (fail)
      go_wp2_with fail
      refine (HKD.out _).mono ?_
      intro e x1 hq
      obtain ⟨a1, c1, rfl, ho⟩ := hq.ex
      have HB : Hid (Below w.heap.size w x1) := bthen (below_dn _ _) hq.bl
      have HO : Hid (x1.ownsRow w.heap.size 40 1 (.slice a1 (kidA kb ko n).length c1) (kidA kb ko n).length ((kidA kb ko n).map pv)) := ho
      clear hq ho
      go_wp2_with fail
      exact bodyPost_ret (results_duo rfl rfl rfl) rfl ⟨⟨_, _, rfl, HO.out⟩, HB.out⟩
    · have z1 : decide ((0 : Int) ≤ N) = false := decide_eq_false hN
      clear hno
      clear ha
      go_enter Try.func26, Try.ntmps26
      go_wp2_with fail
      first | go_quiet (fail) | go_big_quiet (fail)
      go_wp2_with fail
      refine (HKD.out _).mono ?_
      intro e x1 hq
      obtain ⟨a1, c1, rfl, ho⟩ := hq.ex
      have HB : Hid (Below w.heap.size w x1) := bthen (below_dn _ _) hq.bl
      have HO : Hid (x1.ownsRow w.heap.size 40 1 (.slice a1 (kidA kb ko n).length c1) (kidA kb ko n).length ((kidA kb ko n).map pv)) := ho
      clear hq ho
      go_wp2_with fail
      exact bodyPost_ret (results_duo rfl rfl rfl) rfl ⟨⟨_, _, rfl, HO.out⟩, HB.out⟩
  · have z9 : (k == 9) = false := int_bne h9
    clear hno
    clear ha
    go_enter Try.func26, Try.ntmps26
    go_wp2_with fail
    first | go_quiet (fail) | go_big_quiet (fail)
    go_wp2_with fail
    refine (HKD.out _).mono ?_
    intro e x1 hq
    obtain ⟨a1, c1, rfl, ho⟩ := hq.ex
    have HB : Hid (Below w.heap.size w x1) := bthen (below_dn _ _) hq.bl
    have HO : Hid (x1.ownsRow w.heap.size 40 1 (.slice a1 (kidA kb ko n).length c1) (kidA kb ko n).length ((kidA kb ko n).map pv)) := ho
    clear hq ho
    go_wp2_with fail
    exact bodyPost_ret (results_duo rfl rfl rfl) rfl ⟨⟨_, _, rfl, HO.out⟩, HB.out⟩
/-- what a step of Subst answers, where a type u is put in -/
structure SvQ (w : World) (b o : Nat) (u : Ty) (e : Ending) (w' : World) : Prop where
  er : e = .returned (.tuple #[.slice none 0 0, .bool true])
  ex : ∃ w1 vn vm vk, Below w.heap.size w w1 ∧ Prt (fun b => w.heap.size ≤ b) w1 u vn vm vk ∧ w' = ((((((w1.setCell ⟨b, o, none⟩ (.int .i64 u.kind)).setCell ⟨b, o + 1, none⟩ (.string u.name)).setCell ⟨b, o + 2, none⟩ (.int .i64 u.n)).setCell ⟨b, o + 3, none⟩ (.bool u.flag)).setCell ⟨b, o + 4, none⟩ (vn)).setCell ⟨b, o + 5, none⟩ (vm)).setCell ⟨b, o + 6, none⟩ (vk)
set_option maxRecDepth 100000 in
set_option maxHeartbeats 4000000 in
theorem sb_put {w : World} {b o AB ab ao la ca q : Nat} {u : Ty} {x1 x3 x4 x5 x6 : Value} {B : BQ} (h0 : w.cell? ⟨b, o, none⟩ = some (.int .i64 9)) (h1 : w.cell? ⟨b, o + 1, none⟩ = some x1) (h2 : w.cell? ⟨b, o + 2, none⟩ = some (.int .i64 (q : Int))) (h3 : w.cell? ⟨b, o + 3, none⟩ = some x3) (h4 : w.cell? ⟨b, o + 4, none⟩ = some x4) (h5 : w.cell? ⟨b, o + 5, none⟩ = some x5) (h6 : w.cell? ⟨b, o + 6, none⟩ = some x6) (hnb : NB w b)
    (hA : w.cell? ⟨AB, 0, none⟩ = some (.slice (some ⟨ab, ao, none⟩) la ca)) (hq : q < la) (hu : u.lies B w ab (ao + q * 7)) (hf : Fit u) (hc : u.cnt ≤ 1000000) :
    Calls Try.prog 26 #[pv ⟨b, o, none⟩, .pointer (some ⟨AB, 0, none⟩)] w (SvQ w b o u) := by
  obtain ⟨e0, e1, e2, e3, vn, vm, vk, e4, e5, e6, hp⟩ := lies_iff.1 hu
  obtain ⟨an, cn, am, cm, ak, ck, rfl, rfl, rfl⟩ := hp.form
  have HFR : Hid (∀ W, Below w.heap.size w W → Calls Try.prog 21 #[.agg #[.int .i64 u.kind, .string u.name, .int .i64 u.n, .bool u.flag, .slice an u.names.length cn, .slice am u.marks.length cm, .slice ak u.kids.length ck]] W (TyO W u)) := fun W hb => fresh_own (hp.kept hb) hf hc
  have z0 : (0 : Int) ≤ (q : Int) := by omega
  have z1 : (q : Int) < (la : Int) := by omega
  have HNB : Hid (NB w b) := hnb
  have HC : Hid (w.cell? ⟨b, o, none⟩ = some (.int .i64 9) ∧ w.cell? ⟨b, o + 1, none⟩ = some x1 ∧ w.cell? ⟨b, o + 2, none⟩ = some (.int .i64 (q : Int)) ∧ w.cell? ⟨b, o + 3, none⟩ = some x3 ∧ w.cell? ⟨b, o + 4, none⟩ = some x4 ∧ w.cell? ⟨b, o + 5, none⟩ = some x5 ∧ w.cell? ⟨b, o + 6, none⟩ = some x6) := ⟨h0, h1, h2, h3, h4, h5, h6⟩
  clear hu hp hf hc hnb
  go_enter Try.func26, Try.ntmps26
  go_wp2_with fail
  first | go_quiet (fail) | go_big_quiet (fail)
  go_wp2_with fail
  go_region_law
    (go_simp; go_wp2_with (go_at_call 21; refine (HFR.out _ (bthen (below_dn _ _) (below_drew1 _))).mono ?_; intro e w1 hq; obtain ⟨vn, vm, vk, rfl, hpr⟩ := hq.q.ex; obtain ⟨bn, en, bm, em, bk, ek, rfl, rfl, rfl⟩ := hpr.form; have hbw : Below w.heap.size w w1 := bthen (bthen (below_dn _ _) (below_drew1 _)) hq.bl; have HBW : Hid (Below w.heap.size w w1) := hbw; have HPR : Hid (Prt (fun b => w.heap.size ≤ b) w1 u (.slice bn u.names.length en) (.slice bm u.marks.length em) (.slice bk u.kids.length ek)) := hpr; obtain ⟨k0, k1, k2, k3, k4, k5, k6⟩ := HC.out; have n0 := kept_cell hbw k0; have n1 := kept_cell hbw k1; have n2 := kept_cell hbw k2; have n3 := kept_cell hbw k3; have n4 := kept_cell hbw k4; have n5 := kept_cell hbw k5; have n6 := kept_cell hbw k6; have hn1 := HNB.out.kept hbw; have g0 := hn1.frozen o; have g1 := hn1.frozen (o + 1); have g2 := hn1.frozen (o + 2); have g3 := hn1.frozen (o + 3); have g4 := hn1.frozen (o + 4); have g5 := hn1.frozen (o + 5); have g6 := hn1.frozen (o + 6); unfold agT; clear hq hpr hbw k0 k1 k2 k3 k4 k5 k6 hn1 h0 h1 h2 h3 h4 h5 h6 e0 e1 e2 e3 e4 e5 e6 hA))
  all_goals
    go_wp2_with fail
    exact bodyPost_ret (results_duo rfl rfl rfl) rfl ⟨rfl, w1, _, _, _, HBW.out, HPR.out, rfl⟩
end Go.Proofs.Ytcmnhkopmkaiaaa

