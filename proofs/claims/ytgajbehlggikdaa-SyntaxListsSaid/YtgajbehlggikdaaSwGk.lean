/- DERIVED. The walk over the laws' awake. -/
import Derived.Test.YtgajbehlggikdaaSwGi
import Derived.Test.YtgajbehlggikdaaSwGj
import Derived.Test.YtgajbehlggikdaaSyGc
import Derived.Test.YtgajbehlggikdaaSwCmdsQ
namespace Go.Proofs.Ytgajbehlggikdaa.Sw
open Go.RowKit
open PathM WdM SyM
open Go.Proofs.Ytgajbehlggikdaa.Wd
set_option linter.unusedVariables false

theorem list_a {d : Nat} {W : World} {S : Nat → Prop} {v : Value} {p1 p2 p3 : PiT} {o1 o2 : Bs} (h : LsIn (d + 1) W S v [.mk [p1, p2, p3] [o1, o2]]) : ∃ (b off c : Nat) (P : Option Addr) (pc ob oo oc : Nat), v = .slice (some ⟨b, off, none⟩) 1 c ∧ b < W.heap.size ∧ W.cell? ⟨b, off, none⟩ = some (.slice P 3 pc) ∧ W.cell? ⟨b, off + 1, none⟩ = some (.slice (some ⟨ob, oo, none⟩) 2 oc) ∧ ob < W.heap.size ∧ W.cell? ⟨ob, oo + 1, none⟩ = some (.string (nm o2)) := by
  have h : Sl 2 (RLi (LsIn d)) W S v _ := h
  obtain ⟨⟨A, c, rfl⟩, _⟩ := h.len
  obtain ⟨b, off, rfl, _, hb, hc⟩ := h.at_ (by simp)
  obtain ⟨vs, _, hcell, pv, ov, rfl, hp, ho⟩ := hc 0 (by simp)
  obtain ⟨⟨P, pc, rfl⟩, _⟩ := hp.len
  obtain ⟨⟨O, oc, rfl⟩, _⟩ := ho.len
  obtain ⟨ob, oo, rfl, _, hob, hoc⟩ := ho.at_ (by simp)
  obtain ⟨us, _, hoc2, he⟩ := hoc 1 (by simp)
  have he : us = [.string (nm o2)] := he
  subst he
  have c0 := hcell 0 _ rfl
  have c1 := hcell 1 _ rfl
  have c2 := hoc2 0 _ rfl
  simp only [Nat.zero_mul, Nat.add_zero, Nat.one_mul] at c0 c1 c2
  exact ⟨b, off, c, P, pc, ob, oo, oc, rfl, hb, c0, c1, hob, c2⟩
theorem list_b {d : Nat} {W : World} {S : Nat → Prop} {v : Value} {k : Int} {n : Bs} {x1 : List AsT} {x2 : List (List PT)} {x3 x4 x5 : List LiT} {x6 : List CsT} {r : RdT} (h : LsIn (d + 1) W S v [.mk [.mk false [.mk k n x1 x2 x3 x4 x5 x6 [r]]] []]) : ∃ (b off c pb po pc cb co cc : Nat) (R : Option Addr) (rc : Nat), v = .slice (some ⟨b, off, none⟩) 1 c ∧ b < W.heap.size ∧ W.cell? ⟨b, off, none⟩ = some (.slice (some ⟨pb, po, none⟩) 1 pc) ∧ pb < W.heap.size ∧ W.cell? ⟨pb, po + 1, none⟩ = some (.slice (some ⟨cb, co, none⟩) 1 cc) ∧ cb < W.heap.size ∧ W.cell? ⟨cb, co, none⟩ = some (.int .i64 k) ∧ W.cell? ⟨cb, co + 8, none⟩ = some (.slice R 1 rc) := by
  have h : Sl 2 (RLi (LsIn d)) W S v _ := h
  obtain ⟨⟨A, c, rfl⟩, _⟩ := h.len
  obtain ⟨b, off, rfl, _, hb, hc⟩ := h.at_ (by simp)
  obtain ⟨vs, _, hcell, pv, ov, rfl, hp, ho⟩ := hc 0 (by simp)
  obtain ⟨⟨P, pc, rfl⟩, _⟩ := hp.len
  obtain ⟨pb, po, rfl, _, hpb, hpc⟩ := hp.at_ (by simp)
  obtain ⟨us, _, hpc2, cv, rfl, hq⟩ := hpc 0 (by simp)
  obtain ⟨⟨C, cc, rfl⟩, _⟩ := hq.len
  obtain ⟨cb, co, rfl, _, hcb, hcc⟩ := hq.at_ (by simp)
  obtain ⟨ts, _, hcc2, he⟩ := hcc 0 (by simp)
  obtain ⟨av, wv, cv2, bv, ov2, sv, rv, rfl, g1, g2, g3, g4, g5, g6, g7, g8⟩ := he
  obtain ⟨⟨R, rc, rfl⟩, _⟩ := g7.len
  have c0 := hcell 0 _ rfl
  have c1 := hpc2 1 _ rfl
  have c2 := hcc2 0 _ rfl
  have c3 := hcc2 8 _ rfl
  simp only [Nat.zero_mul, Nat.add_zero] at c0 c1 c2 c3
  exact ⟨b, off, c, pb, po, pc, cb, co, cc, R, rc, rfl, hb, c0, hpb, c1, hcb, c2, c3⟩
set_option maxRecDepth 100000 in
set_option maxHeartbeats 1600000 in
theorem awake_any (w : World) : Calls Try.prog 7 #[] w fun e w' => e = .returned (.bool true) ∧ Below w.heap.size w w' := by
  have h1 := fun W => Parse_any ⟨#[97, 32, 38, 38, 32, 98, 32, 124, 124, 32, 99]⟩ W (by decide)
  have h2 := fun W => Parse_any ⟨#[105, 102, 32, 97, 59, 32, 116, 104, 101, 110, 32, 98, 59, 32, 102, 105, 32, 62, 102]⟩ W (by decide)
  have h3 := fun W => Parse_any ⟨#[97, 32, 124]⟩ W (by decide)
  have h4 := fun W => Parse_any ⟨#[102, 105]⟩ W (by decide)
  have e1 : parseL (ByteArray.mk #[97, 32, 38, 38, 32, 98, 32, 124, 124, 32, 99]).data.toList = _ := aw1
  have e2 : parseL (ByteArray.mk #[105, 102, 32, 97, 59, 32, 116, 104, 101, 110, 32, 98, 59, 32, 102, 105, 32, 62, 102]).data.toList = _ := aw2
  have e3 : parseL (ByteArray.mk #[97, 32, 124]).data.toList = _ := aw3
  have e4 : parseL (ByteArray.mk #[102, 105]).data.toList = _ := aw4
  rw [e1] at h1
  rw [e2] at h2
  rw [e3] at h3
  rw [e4] at h4
  unfold ParsePost at h1 h2 h3 h4
  have H1 := Lib.hid h1
  have H2 := Lib.hid h2
  have H3 := Lib.hid h3
  have H4 := Lib.hid h4
  clear h1 h2 h3 h4 e1 e2 e3 e4
  go_enter Try.func7, Try.ntmps7
  go_wp2_with fail
  refine (H1.out w).mono ?_
  rintro e W1 ⟨hb1, v1, rfl, hv1⟩
  obtain ⟨b, off, c, P, pc, ob, oo, oc, rfl, z1, a1, a2, z2, a3⟩ := list_a hv1
  have hx : nm [124, 124] = ⟨#[124, 124]⟩ := rfl
  rw [hx] at a3
  clear hv1 hx
  go_wp2_with fail
  refine (H2.out W1).mono ?_
  rintro e W2 ⟨hb2, v2, rfl, hv2⟩
  obtain ⟨b', off', c', pb, po, pc', cb, co, cc, R, rc, rfl, y1, d1, y2, d2, y3, d3, d4⟩ := list_b hv2
  replace a1 := cell_below hb2 z1 a1
  replace a2 := cell_below hb2 z1 a2
  replace a3 := cell_below hb2 z2 a3
  replace z1 : b < W2.heap.size := Nat.lt_of_lt_of_le z1 hb2.size
  replace z2 : ob < W2.heap.size := Nat.lt_of_lt_of_le z2 hb2.size
  have HB2 := Lib.hid (hb1.trans (hb2.mono hb1.size))
  clear hv2 hb1 hb2
  go_wp2_with fail
  refine (H3.out W2).mono ?_
  rintro e W3 ⟨hb3, h9⟩
  have h9 : e = _ := h9
  subst h9
  go_wp2_with fail
  refine (H4.out W3).mono ?_
  rintro e W4 ⟨hb4, h9⟩
  have h9 : e = _ := h9
  subst h9
  have hb34 := hb3.trans (hb4.mono hb3.size)
  have HB4 := Lib.hid (HB2.out.trans (hb34.mono HB2.out.size))
  replace a1 := cell_below hb34 z1 a1
  replace a2 := cell_below hb34 z1 a2
  replace a3 := cell_below hb34 z2 a3
  replace d1 := cell_below hb34 y1 d1
  replace d2 := cell_below hb34 y2 d2
  replace d3 := cell_below hb34 y3 d3
  replace d4 := cell_below hb34 y3 d4
  have hs := hb34.size
  have k1 : b < W4.heap.size := by omega
  have k2 : ob < W4.heap.size := by omega
  have k3 : b' < W4.heap.size := by omega
  have k4 : pb < W4.heap.size := by omega
  have k5 : cb < W4.heap.size := by omega
  clear hb3 hb4 hb34
  go_wp2_with fail
  go_ret
  exact ⟨rfl, HB4.out⟩

end Go.Proofs.Ytgajbehlggikdaa.Sw

/- DERIVED. The laws' lists at every depth; what the laws' texts share. -/
namespace Go.Proofs.Ytgajbehlggikdaa.Sw
open Go.RowKit Go.Sort
open PathM WdM SyM
open Go.Proofs.Ytgajbehlggikdaa.Wd
set_option linter.unusedVariables false

theorem same_all : ∀ d, LsSame d
  | 0 => by
    rintro l v u w S T ⟨rfl, A, c, rfl⟩ ⟨_, A2, c2, rfl⟩
    exact lists_none A A2 c c2 w
  | d + 1 => fun l v u w S T hv hu => lists_step (cmds_step (same_all d)) l v u w S T hv hu
/-- Concatenation, its result a variable. -/
theorem cat_any (a b : ByteArray) (na nb : Nat) (ha : a.size ≤ na) (hb : b.size ≤ nb) (h : na + nb ≤ 1000000000) : ∃ y : ByteArray, Hid (y.data.toList = a.data.toList ++ b.data.toList) ∧ y.size ≤ na + nb ∧
    ∀ W, (Op.stringOp .add a b).run Try.prog W = .ok (.string y) W :=
  ⟨a ++ b, Lib.hid (by simp), by simp; omega, fun W => run_string_add_sum W _ _ (show a.size + b.size ≤ 9223372036854775807 by omega)⟩
theorem parse_err {l : Bs} {a : Nat} {e : Int} (h : parseL l = .bad a e) : e ≠ 0 := good_script (good_lv 17).lists _ _ _ h
theorem parse_long (s : ByteArray) (w : World) (hm : s.size ≤ maxLen) (hs : 8192 < s.size) : Calls Try.prog 8 #[.string s] w fun e w' => e = .returned (.tuple #[.slice none 0 0, .int .i64 0, .int .i64 2]) ∧ w' = w := by
  go_enter Try.func8, Try.ntmps8
  go_wp2_with fail
  go_ret3
  exact ⟨rfl, rfl⟩

end Go.Proofs.Ytgajbehlggikdaa.Sw

/- DERIVED. Lists lie one level deeper, too; a list of one command. -/
namespace Go.Proofs.Ytgajbehlggikdaa.Sw
open Go.RowKit Go.Sort
open PathM WdM SyM
open Go.Proofs.Ytgajbehlggikdaa.Wd
set_option linter.unusedVariables false

theorem Sl.map {α : Type} {size : Nat} {R R' : Rep α} {w : World} {S : Nat → Prop} {v : Value} {l : List α} (h : Sl size R w S v l) (hR : ∀ vs x, R w S vs x → R' w S vs x) : Sl size R' w S v l := by
  obtain ⟨A, c, hv, hl, h⟩ := h
  refine ⟨A, c, hv, hl, fun hne => ?_⟩
  obtain ⟨b, off, hA, hb, hlt, hc⟩ := h hne
  refine ⟨b, off, hA, hb, hlt, fun i x hx => ?_⟩
  obtain ⟨vs, h1, h2, h3⟩ := hc i x hx
  exact ⟨vs, h1, h2, hR _ _ h3⟩
theorem LsIn.up : ∀ (d : Nat) {w : World} {S : Nat → Prop} {v : Value} {l : List LiT}, LsIn d w S v l → LsIn (d + 1) w S v l
  | 0, w, S, v, l, ⟨h1, A, c, h2⟩ => by subst h1; subst h2; exact LsIn.nil _ _ _ _ _
  | d + 1, w, S, v, l, h => by
    have h : Sl 2 (RLi (LsIn d)) w S v l := h
    refine Sl.map h (fun vs x hx => ?_)
    obtain ⟨ps, os⟩ := x
    obtain ⟨pv, ov, e, hp, ho⟩ := hx
    refine ⟨pv, ov, e, Sl.map hp (fun vs x hx => ?_), ho⟩
    obtain ⟨n, cs⟩ := x
    obtain ⟨cv, e, hc⟩ := hx
    refine ⟨cv, e, Sl.map hc (fun vs x hx => ?_)⟩
    obtain ⟨k, n, al, ws, c, b, o, cs, rs⟩ := x
    obtain ⟨av, wv, cv, bv, ov, sv, rv, e, h1, h2, h3, h4, h5, h6, h7, h8⟩ := hx
    refine ⟨av, wv, cv, bv, ov, sv, rv, e, h1, h2, LsIn.up d h3, LsIn.up d h4, LsIn.up d h5, Sl.map h6 (fun vs x hx => ?_), h7, h8⟩
    obtain ⟨ps, b⟩ := x
    obtain ⟨pv, bv, e, hp, hb⟩ := hx
    exact ⟨pv, bv, e, hp, LsIn.up d hb⟩
/-- Lists of one command. -/
theorem list_c {d : Nat} {W : World} {S : Nat → Prop} {v : Value} {ng : Bool} {C : CmdT} (h : LsIn (d + 1) W S v [.mk [.mk ng [C]] []]) : ∃ (b off c pb po pc cb co cc : Nat) (vs : List Value), v = .slice (some ⟨b, off, none⟩) 1 c ∧ b < W.heap.size ∧ W.cell? ⟨b, off, none⟩ = some (.slice (some ⟨pb, po, none⟩) 1 pc) ∧ pb < W.heap.size ∧ W.cell? ⟨pb, po + 1, none⟩ = some (.slice (some ⟨cb, co, none⟩) 1 cc) ∧ cb < W.heap.size ∧
    (∀ j u, vs[j]? = some u → W.cell? ⟨cb, co + j, none⟩ = some u) ∧ RCmd (LsIn d) W S vs C := by
  have h : Sl 2 (RLi (LsIn d)) W S v _ := h
  obtain ⟨⟨A, c, rfl⟩, _⟩ := h.len
  obtain ⟨b, off, rfl, _, hb, hc⟩ := h.at_ (by simp)
  obtain ⟨vs, _, hcell, pv, ov, rfl, hp, ho⟩ := hc 0 (by simp)
  obtain ⟨⟨P, pc, rfl⟩, _⟩ := hp.len
  obtain ⟨pb, po, rfl, _, hpb, hpc⟩ := hp.at_ (by simp)
  obtain ⟨us, _, hpc2, cv, rfl, hq⟩ := hpc 0 (by simp)
  obtain ⟨⟨C, cc, rfl⟩, _⟩ := hq.len
  obtain ⟨cb, co, rfl, _, hcb, hcc⟩ := hq.at_ (by simp)
  obtain ⟨ts, _, hcc2, he⟩ := hcc 0 (by simp)
  have c0 := hcell 0 _ rfl
  have c1 := hpc2 1 _ rfl
  simp only [Nat.zero_mul, Nat.add_zero] at c0 c1 hcc2
  exact ⟨b, off, c, pb, po, pc, cb, co, cc, ts, rfl, hb, c0, hpb, c1, hcb, hcc2, he⟩
/-- What stands around a script. -/
def hdT : Nat → Bs
  | 0 => [123, 10] | 1 => [40] | 2 => [119, 104, 105, 108, 101, 32] | 3 => [105, 102, 32, 120, 10, 116, 104, 101, 110, 32] | 4 => [102, 40, 41, 32, 123, 10] | _ => [105, 102, 32, 120, 59, 32, 116, 104, 101, 110, 32, 121, 59, 32, 101, 108, 115, 101, 10]
def tlT : Nat → Bs
  | 0 => [10, 125] | 1 => [10, 41] | 2 => [10, 100, 111, 32, 120, 10, 100, 111, 110, 101] | 3 => [10, 102, 105] | 4 => [10, 125] | _ => [10, 102, 105]
/-- Where it stands in the command. -/
def InC (k : Nat) (C : CmdT) (xs : List LiT) : Prop := match C with
  | .mk _ _ _ _ c b o _ _ => (k = 2 → c = xs) ∧ (k = 4 → ∃ (q : Int) (n : Bs) (a : List AsT) (w : List (List PT)) (c2 o2 : List LiT) (cs : List CsT) (rs : List RdT), b = [.mk [.mk false [.mk q n a w c2 xs o2 cs rs]] []]) ∧ (k = 5 → o = xs) ∧ (k ≠ 2 → k ≠ 4 → k ≠ 5 → b = xs)
theorem groups_math {l r : Bs} {xs : List LiT} (h : parseL l = .ok xs r) (hx : xs ≠ []) (k : Nat) (hk : k < 6) : (∃ p, parseL (hdT k ++ (l ++ tlT k)) = .bad p 63) ∨ ∃ C r', parseL (hdT k ++ (l ++ tlT k)) = .ok [.mk [.mk false [C]] []] r' ∧ InC k C xs := by
  match k, hk with
  | 0, _ =>
    rcases plain_brace h hx with e | ⟨p, e⟩
    · exact .inr ⟨_, _, e, by simp [InC]⟩
    · exact .inl ⟨p, e⟩
  | 1, _ =>
    rcases plain_paren h hx with e | ⟨p, e⟩
    · exact .inr ⟨_, _, e, by simp [InC]⟩
    · exact .inl ⟨p, e⟩
  | 2, _ =>
    rcases plain_while h hx with e | ⟨p, e⟩
    · exact .inr ⟨_, _, e, by simp [InC]⟩
    · exact .inl ⟨p, e⟩
  | 3, _ =>
    rcases plain_then h hx with e | ⟨p, e⟩
    · exact .inr ⟨_, _, e, by simp [InC]⟩
    · exact .inl ⟨p, e⟩
  | 4, _ =>
    rcases plain_func h hx with e | ⟨p, e⟩
    · exact .inr ⟨_, _, e, ⟨(fun h => absurd h (by decide)), (fun _ => ⟨_, _, _, _, _, _, _, _, rfl⟩), (fun h => absurd h (by decide)), (fun _ h => absurd rfl h)⟩⟩
    · exact .inl ⟨p, e⟩
  | 5, _ =>
    rcases plain_else h hx with e | ⟨p, e⟩
    · exact .inr ⟨_, _, e, by simp [InC]⟩
    · exact .inl ⟨p, e⟩

end Go.Proofs.Ytgajbehlggikdaa.Sw
