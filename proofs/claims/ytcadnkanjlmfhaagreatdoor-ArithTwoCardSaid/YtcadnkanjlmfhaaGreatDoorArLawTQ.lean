/- DERIVED. The law ArithTwo walked. -/
import Derived.Test.YtcadnkanjlmfhaaGreatDoorAzQ29
import Derived.Test.YtcadnkanjlmfhaaGreatDoorArTwoMQ
namespace Go.Proofs.YtcadnkanjlmfhaaGreatDoor.Ar
open Go.RowKit
open PathM WdM ArM
open Go.Proofs.YtcadnkanjlmfhaaGreatDoor.Wd
open Go.Proofs.YtcadnkanjlmfhaaGreatDoor.NumM (textL)
set_option linter.unusedVariables false

theorem two_at {W : World} {b k : Nat} (h : W.heap[b]? = some (.cells #[.string ⟨#[43]⟩, .string ⟨#[45]⟩, .string ⟨#[42]⟩, .string ⟨#[47]⟩, .string ⟨#[37]⟩, .string ⟨#[60, 60]⟩, .string ⟨#[62, 62]⟩, .string ⟨#[60]⟩, .string ⟨#[60, 61]⟩, .string ⟨#[62]⟩, .string ⟨#[62, 61]⟩, .string ⟨#[61, 61]⟩, .string ⟨#[33, 61]⟩, .string ⟨#[38]⟩, .string ⟨#[94]⟩, .string ⟨#[124]⟩] 9 (0, 0))) (hk : k < 16) : W.cell? ⟨b, k, none⟩ = some (.string (nm (twoS.getD k []))) := by
  have := cell_blk h k
  match k, hk with
  | 0, _ => exact this
  | 1, _ => exact this
  | 2, _ => exact this
  | 3, _ => exact this
  | 4, _ => exact this
  | 5, _ => exact this
  | 6, _ => exact this
  | 7, _ => exact this
  | 8, _ => exact this
  | 9, _ => exact this
  | 10, _ => exact this
  | 11, _ => exact this
  | 12, _ => exact this
  | 13, _ => exact this
  | 14, _ => exact this
  | 15, _ => exact this
  | n + 16, h => exact absurd h (by omega)
theorem two_p (k : Nat) : (⟨#[40, 120, 32]⟩ : ByteArray) ++ nm (twoS.getD k []) ++ ⟨#[36, 121, 41]⟩ = nm (twoP k) := by
  rw [cat_bs, cat_bs, nm_data, nm_data]
  rfl
theorem two_d (k : Nat) : (⟨#[120]⟩ : ByteArray) ++ nm (twoS.getD k []) ++ ⟨#[121]⟩ = nm (twoD k) := by
  rw [cat_bs, cat_bs, nm_data, nm_data]
  rfl
theorem twoP_len (k : Nat) : (twoP k).length ≤ 8 := by
  unfold twoP
  have := twoS_len k
  simp only [List.length_append, List.length_cons, List.length_nil]
  omega
theorem twoD_len (k : Nat) : (twoD k).length ≤ 4 := by
  unfold twoD
  have := twoS_len k
  simp only [List.length_append, List.length_cons, List.length_nil]
  omega
/-- Behind the index: where the sign lies. -/
def TwQ (b k : Nat) (w W : World) : Prop := Below b w W ∧ b < W.heap.size ∧ W.cell? ⟨b, k, none⟩ = some (.string (nm (twoS.getD k [])))
theorem boxes (W : World) (z : Nat) (hz : W.heap.size = z) (t : TypeId) (u : Value) : ∀ j, j < 2 → ((W.alloc (.cells #[u, u] t)).alloc (.cells #[u, u] t)).cell? ⟨z, j, none⟩ = some u ∧ ((W.alloc (.cells #[u, u] t)).alloc (.cells #[u, u] t)).frozen? ⟨z, j, none⟩ = false ∧
    ((W.alloc (.cells #[u, u] t)).alloc (.cells #[u, u] t)).cell? ⟨z + 1, j, none⟩ = some u ∧ ((W.alloc (.cells #[u, u] t)).alloc (.cells #[u, u] t)).frozen? ⟨z + 1, j, none⟩ = false := by
  intro j hj
  subst hz
  have n1 := heap_alloc_new W (.cells #[u, u] t)
  have n2 := heap_alloc_new (W.alloc (.cells #[u, u] t)) (.cells #[u, u] t)
  have hs : (W.alloc (.cells #[u, u] t)).heap.size = W.heap.size + 1 := World.size_alloc _ _
  rw [hs] at n2
  have n3 : ((W.alloc (.cells #[u, u] t)).alloc (.cells #[u, u] t)).heap[W.heap.size]? = _ := ((al (W.alloc (.cells #[u, u] t)) (.cells #[u, u] t)).block W.heap.size (by omega)).trans n1
  match j, hj with
  | 0, _ => exact ⟨cell_blk n3 0, froz_blk n3 0, cell_blk n2 0, froz_blk n2 0⟩
  | 1, _ => exact ⟨cell_blk n3 1, froz_blk n3 1, cell_blk n2 1, froz_blk n2 1⟩
theorem boxes2 (W : World) (z : Nat) (hz : W.heap.size = z) (t : TypeId) (u x y : Value) : (((W.alloc (.cells #[u, u] t)).setCell ⟨z, 0, none⟩ x).alloc (.cells #[u, u] t)).cell? ⟨z, 1, none⟩ = some u ∧ (((W.alloc (.cells #[u, u] t)).setCell ⟨z, 0, none⟩ x).alloc (.cells #[u, u] t)).frozen? ⟨z, 1, none⟩ = false ∧
    (∀ j, j < 2 → ((((W.alloc (.cells #[u, u] t)).setCell ⟨z, 0, none⟩ x).setCell ⟨z, 1, none⟩ y).alloc (.cells #[u, u] t)).cell? ⟨z + 1, j, none⟩ = some u ∧ ((((W.alloc (.cells #[u, u] t)).setCell ⟨z, 0, none⟩ x).setCell ⟨z, 1, none⟩ y).alloc (.cells #[u, u] t)).frozen? ⟨z + 1, j, none⟩ = false) := by
  subst hz
  have n1 := heap_alloc_new W (.cells #[u, u] t)
  have s1 := set_blk (j := 0) n1 x
  have s2 := set_blk (j := 1) s1 y
  have hs : ((W.alloc (.cells #[u, u] t)).setCell ⟨W.heap.size, 0, none⟩ x).heap.size = W.heap.size + 1 := by rw [World.size_setCell, World.size_alloc]
  have hs2 : (((W.alloc (.cells #[u, u] t)).setCell ⟨W.heap.size, 0, none⟩ x).setCell ⟨W.heap.size, 1, none⟩ y).heap.size = W.heap.size + 1 := by rw [World.size_setCell, hs]
  have n2 := heap_alloc_new (((W.alloc (.cells #[u, u] t)).setCell ⟨W.heap.size, 0, none⟩ x).setCell ⟨W.heap.size, 1, none⟩ y) (.cells #[u, u] t)
  rw [hs2] at n2
  have n3 : (((W.alloc (.cells #[u, u] t)).setCell ⟨W.heap.size, 0, none⟩ x).alloc (.cells #[u, u] t)).heap[W.heap.size]? = _ := ((al _ (.cells #[u, u] t)).block W.heap.size (by omega)).trans s1
  refine ⟨cell_blk n3 1, froz_blk n3 1, fun j hj => ?_⟩
  match j, hj with
  | 0, _ => exact ⟨cell_blk n2 0, froz_blk n2 0⟩
  | 1, _ => exact ⟨cell_blk n2 1, froz_blk n2 1⟩
/-- Both boxes as they are then. -/
def BxQ (w : World) (lb z : Nat) (x y x2 y2 : Value) (W : World) : Prop := Below lb w W ∧ W.cell? ⟨z, 0, none⟩ = some x ∧ W.cell? ⟨z, 1, none⟩ = some y ∧ W.cell? ⟨z + 1, 0, none⟩ = some x2 ∧ W.cell? ⟨z + 1, 1, none⟩ = some y2 ∧ z + 1 < W.heap.size ∧ lb ≤ z
theorem boxes3 (w W : World) (lb z N : Nat) (hz : W.heap.size = z) (hlb : lb ≤ z) (hB : Below lb w W) (t : TypeId) (u x y x2 y2 : Value) : BxQ w lb z x y x2 y2 (((((W.drewN N).alloc (.cells #[u, u] t)).setCell ⟨z, 0, none⟩ x).setCell ⟨z, 1, none⟩ y).alloc (.cells #[x2, y2] t)) := by
  subst hz
  have n1 := heap_alloc_new (W.drewN N) (.cells #[u, u] t)
  have s1 := set_blk (j := 0) n1 x
  have s2 := set_blk (j := 1) s1 y
  have hs : (((W.drewN N).alloc (.cells #[u, u] t)).setCell ⟨W.heap.size, 0, none⟩ x).heap.size = W.heap.size + 1 := by rw [World.size_setCell, World.size_alloc]; rfl
  have hs2 : ((((W.drewN N).alloc (.cells #[u, u] t)).setCell ⟨W.heap.size, 0, none⟩ x).setCell ⟨W.heap.size, 1, none⟩ y).heap.size = W.heap.size + 1 := by rw [World.size_setCell, hs]
  have n2 := heap_alloc_new ((((W.drewN N).alloc (.cells #[u, u] t)).setCell ⟨W.heap.size, 0, none⟩ x).setCell ⟨W.heap.size, 1, none⟩ y) (.cells #[x2, y2] t)
  rw [hs2] at n2
  have n3 : (((((W.drewN N).alloc (.cells #[u, u] t)).setCell ⟨W.heap.size, 0, none⟩ x).setCell ⟨W.heap.size, 1, none⟩ y).alloc (.cells #[x2, y2] t)).heap[W.heap.size]? = _ := ((al _ (.cells #[x2, y2] t)).block W.heap.size (by omega)).trans s2
  have b1 : Below W.heap.size W (W.drewN N) := ⟨rfl, rfl, rfl, Nat.le_refl _, fun _ _ => rfl⟩
  have b2 : Below W.heap.size W ((W.drewN N).alloc (.cells #[u, u] t)) := b1.trans (al (W.drewN N) _)
  have b3 := ((b2.setCell (p := ⟨W.heap.size, 0, none⟩) (Nat.le_refl _) x).setCell (p := ⟨W.heap.size, 1, none⟩) (Nat.le_refl _) y).alloc (by rw [hs2]; omega) (.cells #[x2, y2] t)
  exact ⟨hB.trans (b3.mono hlb), cell_blk n3 0, cell_blk n3 1, cell_blk n2 0, cell_blk n2 1, fin_at n2, hlb⟩
theorem va_two (W : World) (b : Nat) (x y : Bs × Bs) (t : TypeId) (h : W.heap[b]? = some (.cells #[.string (nm x.1), .string (nm x.2), .string (nm y.1), .string (nm y.2)] t (0, 0))) (hs : SizesV [x, y]) : VaIn W (.slice (some ⟨b, 0, none⟩) 2 2) [x, y] := by
  refine ⟨_, 2, rfl, ⟨by simp, hs⟩, fun _ => ⟨b, 0, rfl, fin_at h, ?_⟩⟩
  intro i hi
  match i, hi with
  | 0, _ => exact ⟨cell_blk h 0, cell_blk h 1⟩
  | 1, _ => exact ⟨cell_blk h 2, cell_blk h 3⟩
  | n + 2, h => exact absurd h (by simp)
attribute [local go_sem] cell_off cell_far in
set_option maxRecDepth 100000 in
set_option maxHeartbeats 3200000 in
theorem two_law (a b u : Int) (w : World) (a0 : -9223372036854775808 ≤ a) (a1 : a ≤ 9223372036854775807) (b0 : -9223372036854775808 ≤ b) (b1 : b ≤ 9223372036854775807) (u0 : 0 ≤ u) (u1 : u ≤ 18446744073709551615) (hg : SigIn w) :
    Calls Tryz.prog 4 #[.int .i64 a, .int .i64 b, .int .u64 u] w fun e w' => e = .returned (.bool true) ∧ Below w.heap.size w w' := by
  have TA := Lib.hid (fun W => rtext_any a W a0 a1)
  have TB := Lib.hid (fun W => rtext_any b W b0 b1)
  obtain ⟨k, hk, hk16⟩ : ∃ k : Nat, u.tmod 16 = (k : Int) ∧ k < 16 := ⟨(u % 16).toNat, by rw [Int.tmod_eq_emod_of_nonneg u0]; omega, by omega⟩
  have HP : Hid (∀ W v, Below w.heap.size w W → VaIn W v (vTwo a b) → Calls Tryz.prog 7 #[.string ((⟨#[40, 120, 32]⟩ : ByteArray) ++ nm (twoS.getD k []) ++ ⟨#[36, 121, 41]⟩), v] W (EvPost (evalL (twoP k) (vTwo a b)) W)) := Lib.hid (fun W v hb hv => by
    rw [two_p]; exact eval_any _ _ v W (hg.below hb) hv (by have := twoP_len k; omega))
  have HR : Hid (∀ W v, VaIn W v (vTwo a b) → Calls Tryz.prog 8 #[.string ((⟨#[120]⟩ : ByteArray) ++ nm (twoS.getD k []) ++ ⟨#[121]⟩), v] W (EvPost (evalL (twoP k) (vTwo a b)) W)) := Lib.hid (fun W v hv => by
    rw [two_d, ← two_same a b k hk16]; exact rev_all _ _ v W hv (by have := twoD_len k; omega))
  have HAW := Lib.hid (fun W hb => awake_any W (hg.below hb))
  have sz : ∀ x : Int, -9223372036854775808 ≤ x → x ≤ 9223372036854775807 → (textL x).length ≤ 4611686018427387904 := text_len
  have SA := Lib.hid (sz a a0 a1)
  have SB := Lib.hid (sz b b0 b1)
  have eA : (⟨(textL a).toArray⟩ : ByteArray) = nm (textL a) := rfl
  have eB : (⟨(textL b).toArray⟩ : ByteArray) = nm (textL b) := rfl
  rw [eA] at TA; rw [eB] at TB
  have z1 : (nm (twoS.getD k [])).size ≤ 2 := by rw [nm_size]; exact twoS_len k
  have k1 := cat_two ⟨#[40, 120, 32]⟩ (nm (twoS.getD k [])) (by show 3 + _ ≤ _; omega)
  have k2 := cat_two ((⟨#[40, 120, 32]⟩ : ByteArray) ++ nm (twoS.getD k [])) ⟨#[36, 121, 41]⟩ (by rw [ByteArray.size_append]; show 3 + _ + 3 ≤ _; omega)
  have k3 := cat_two ⟨#[120]⟩ (nm (twoS.getD k [])) (by show 1 + _ ≤ _; omega)
  have k4 := cat_two ((⟨#[120]⟩ : ByteArray) ++ nm (twoS.getD k [])) ⟨#[121]⟩ (by rw [ByteArray.size_append]; show 1 + _ + 1 ≤ _; omega)
  have HT : Hid (vTwo a b = [([120], textL a), ([121], textL b)]) := Lib.hid rfl
  have HTQ : Hid (∀ W, W.heap[w.heap.size]? = some (.cells #[.string ⟨#[43]⟩, .string ⟨#[45]⟩, .string ⟨#[42]⟩, .string ⟨#[47]⟩, .string ⟨#[37]⟩, .string ⟨#[60, 60]⟩, .string ⟨#[62, 62]⟩, .string ⟨#[60]⟩, .string ⟨#[60, 61]⟩, .string ⟨#[62]⟩, .string ⟨#[62, 61]⟩, .string ⟨#[61, 61]⟩, .string ⟨#[33, 61]⟩, .string ⟨#[38]⟩, .string ⟨#[94]⟩, .string ⟨#[124]⟩] 9 (0, 0)) → Below w.heap.size w W → TwQ w.heap.size k w W) := Lib.hid (fun W h hb => ⟨hb, fin_at h, two_at h hk16⟩)
  unfold TwQ at HTQ
  generalize (⟨#[40, 120, 32]⟩ : ByteArray) ++ nm (twoS.getD k []) ++ ⟨#[36, 121, 41]⟩ = T2 at *
  generalize (⟨#[40, 120, 32]⟩ : ByteArray) ++ nm (twoS.getD k []) = T1 at *
  generalize (⟨#[120]⟩ : ByteArray) ++ nm (twoS.getD k []) ++ ⟨#[121]⟩ = U2 at *
  generalize (⟨#[120]⟩ : ByteArray) ++ nm (twoS.getD k []) = U1 at *
  generalize evalL (twoP k) (vTwo a b) = M at *
  generalize nm (twoS.getD k []) = SG at *
  generalize vTwo a b = V2 at *
  have q1 : (k : Int) < 16 := by omega
  clear eA eB sz hg a0 a1 b0 b1 u0 u1 z1 hk16
  go_enter Tryz.func4, Tryz.ntmps4
  go_upto_region 2 with (fail)
  refine wp_gen (fun W => Below w.heap.size w W ∧ w.heap.size < W.heap.size ∧ W.cell? ⟨w.heap.size, k, none⟩ = some (.string SG)) (HTQ.out _ (heap_alloc_new _ _) (al _ _)) ?_
  rintro W0 ⟨hb, hz, hc⟩
  have HB0 := Lib.hid hb
  clear hb HTQ
  obtain ⟨lb, hlb⟩ : ∃ lb, w.heap.size = lb := ⟨_, rfl⟩
  have HLB := Lib.hid hlb
  rw [hlb] at hz hc HB0 ⊢
  clear hlb
  go_wp2_with fail
  refine (TA.out _).mono ?_
  rintro e W1 ⟨rfl, n1, rfl⟩
  go_wp2_with fail
  refine (TB.out _).mono ?_
  rintro e W1 ⟨rfl, n2, rfl⟩
  clear TA TB
  obtain ⟨c1, f1, g1, e1⟩ := boxes (W0.drewN (n1 + n2)) W0.heap.size rfl 35 (.string { data := #[] }) 0 (by decide)
  obtain ⟨c2, f2, g2, e2⟩ := boxes (W0.drewN (n1 + n2)) W0.heap.size rfl 35 (.string { data := #[] }) 1 (by decide)
  obtain ⟨p1, p2, p3⟩ := boxes2 (W0.drewN (n1 + n2)) W0.heap.size rfl 35 (.string { data := #[] }) (.string { data := #[120] }) (.string (nm (textL a)))
  obtain ⟨p4, p5⟩ := p3 0 (by decide)
  obtain ⟨p6, p7⟩ := p3 1 (by decide)
  clear p3
  go_upto_region 4 with (fail)
  clear c1 f1 g1 e1 c2 f2 g2 e2 p1 p2 p4 p5 p6 p7
  refine wp_gen (BxQ w lb W0.heap.size (.string ⟨#[120]⟩) (.string (nm (textL a))) (.string ⟨#[121]⟩) (.string (nm (textL b)))) (boxes3 w W0 lb _ _ rfl (by have := HB0.out.size; have := HLB.out; omega) HB0.out _ _ _ _ _ _) ?_
  generalize W0.heap.size = z
  rintro W1 ⟨hb, c1, c2, c3, c4, hz1, hlz⟩
  have hz0 : z < W1.heap.size := by omega
  have HB1 : Hid (Below w.heap.size w W1) := Lib.hid (by rw [HLB.out]; exact hb)
  clear hb HB0 hc
  have HV2 : Hid (∀ (w0 : World), VaIn (w0.alloc (.cells #[.string ⟨#[120]⟩, .string (nm (textL a)), .string ⟨#[121]⟩, .string (nm (textL b))] 35)) (.slice (some ⟨w0.heap.size, 0, none⟩) 2 2) V2 ∧ Below w0.heap.size w0 (w0.alloc (.cells #[.string ⟨#[120]⟩, .string (nm (textL a)), .string ⟨#[121]⟩, .string (nm (textL b))] 35))) := Lib.hid (fun w0 => by
    rw [HT.out]
    refine ⟨va_two _ _ ([120], textL a) ([121], textL b) _ (heap_alloc_new w0 _) ?_, al w0 _⟩
    intro x hx
    simp at hx
    rcases hx with rfl | rfl
    · exact ⟨by simp, SA.out⟩
    · exact ⟨by simp, SB.out⟩)
  have hvl : V2.length = 2 := by rw [HT.out]; rfl
  have HVL := Lib.hid hvl
  clear hvl SA SB
  generalize nm (textL a) = XA at *
  generalize nm (textL b) = XB at *
  go_wp2_with fail
  refine calls_gen (fun W => VaIn W (.slice (some ⟨W1.heap.size, 0, none⟩) 2 2) V2 ∧ Below W1.heap.size W1 W) (HV2.out W1) ?_
  rintro W2 ⟨hv, hb⟩
  have HB2 := Lib.hid (HB1.out.trans (hb.mono HB1.out.size))
  have HW2 := Lib.hid hb
  refine (HP.out W2 _ HB2.out hv).mono ?_
  clear hv hb HP
  intro e W3 hP
  obtain ⟨hb3, hP⟩ := hP
  have HB3 := Lib.hid (HB2.out.trans (hb3.mono HB2.out.size))
  have HW3 := Lib.hid (HW2.out.trans (hb3.mono HW2.out.size))
  have d1 := (World.cell?_of_block (HW3.out.block z hz0)).trans c1
  have d2 := (World.cell?_of_block (HW3.out.block z hz0)).trans c2
  have d3 := (World.cell?_of_block (HW3.out.block (z + 1) hz1)).trans c3
  have d4 := (World.cell?_of_block (HW3.out.block (z + 1) hz1)).trans c4
  have hy1 : z + 1 < W3.heap.size := Nat.lt_of_lt_of_le hz1 HW3.out.size
  have hy0 : z < W3.heap.size := by omega
  clear hb3 c1 c2 c3 c4 hz0 hz1
  cases M with
  | error er =>
    obtain ⟨hne, rfl⟩ := hP
    have HVS := Lib.hid (fun W => vars_same [] (.slice none 0 0) (.slice none 0 0) W (va_nil W) (va_nil W))
    clear hne
    go_wp2_with fail
    refine calls_gen (fun W => VaIn W (.slice (some ⟨W3.heap.size, 0, none⟩) 2 2) V2 ∧ Below W3.heap.size W3 W) (HV2.out W3) ?_
    rintro W4 ⟨hv, hb⟩
    have HB4 := Lib.hid (HB3.out.trans (hb.mono HB3.out.size))
    refine (HR.out W4 _ hv).mono ?_
    clear hv hb
    rintro e W5 ⟨hb5, _, rfl⟩
    have HB5 := Lib.hid (HB4.out.trans (hb5.mono HB4.out.size))
    have HA5 : Hid (∀ W, Below w.heap.size w W → Calls Tryz.prog 6 #[] W fun e w' => e = .returned (.bool true) ∧ Below W.heap.size W w') := HAW
    clear hb5 d1 d2 d3 d4 HAW
    go_wp2_with (first | (go_at_call 9; refine (HVS.out _).mono ?_; rintro e W6 ⟨rfl, q, rfl⟩; have HB6 := Lib.hid (bel_drewN HB5.out q)) | (go_at_call 6; refine (HA5.out _ HB6.out).mono ?_; rintro e W7 ⟨rfl, hb⟩; have HB7 := Lib.hid (HB6.out.trans (hb.mono HB6.out.size)); clear hb))
    go_ret
    exact ⟨rfl, HB7.out⟩
  | ok p =>
    obtain ⟨n, vs2⟩ := p
    obtain ⟨_, v1, rfl, hv1, _⟩ := hP
    have HV1 := Lib.hid hv1
    obtain ⟨A1, k1', rfl⟩ := hv1.form
    clear hv1
    go_wp2_with fail
    refine calls_gen (fun W => VaIn W (.slice (some ⟨W3.heap.size, 0, none⟩) 2 2) V2 ∧ Below W3.heap.size W3 W) (HV2.out W3) ?_
    rintro W4 ⟨hv, hb⟩
    have HB4 := Lib.hid (HB3.out.trans (hb.mono HB3.out.size))
    have HV4 := Lib.hid (HV1.out.below hb)
    refine (HR.out W4 _ hv).mono ?_
    clear hv hb
    rintro e W5 ⟨hb5, _, v2, rfl, hv2, _⟩
    have HB5 := Lib.hid (HB4.out.trans (hb5.mono HB4.out.size))
    obtain ⟨A2, k2', rfl⟩ := hv2.form
    have HVS := Lib.hid (vars_same vs2 _ _ W5 (HV4.out.below hb5) hv2)
    have HA5 : Hid (∀ W, Below w.heap.size w W → Calls Tryz.prog 6 #[] W fun e w' => e = .returned (.bool true) ∧ Below W.heap.size W w') := HAW
    clear hb5 hv2 d1 d2 d3 d4 HAW HV1 HV4
    generalize vs2.length = len2 at *
    go_wp2_with (first | (go_at_call 9; refine HVS.out.mono ?_; rintro e W6 ⟨rfl, q, rfl⟩; have HB6 := Lib.hid (bel_drewN HB5.out q)) | (go_at_call 6; refine (HA5.out _ HB6.out).mono ?_; rintro e W7 ⟨rfl, hb⟩; have HB7 := Lib.hid (HB6.out.trans (hb.mono HB6.out.size)); clear hb))
    go_ret
    exact ⟨rfl, HB7.out⟩
end Go.Proofs.YtcadnkanjlmfhaaGreatDoor.Ar
