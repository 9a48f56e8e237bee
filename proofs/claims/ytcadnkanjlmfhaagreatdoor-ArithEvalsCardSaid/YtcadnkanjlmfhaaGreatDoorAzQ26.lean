/- DERIVED. Texts of this claim, joined: ArRCnd, ArRLvW. -/
import Derived.Test.YtcadnkanjlmfhaaGreatDoorAzQ25
import Derived.Test.YtcadnkanjlmfhaaGreatDoorAzQ20
namespace Go.Proofs.YtcadnkanjlmfhaaGreatDoor.Ar
open Go.RowKit
open PathM WdM ArM
open Go.Proofs.YtcadnkanjlmfhaaGreatDoor.Wd
set_option linter.unusedVariables false

def condM3 (t y : Tm) : Rr → Rr
  | .error e => .error e
  | .ok (z, r5) => .ok (.choice t y z, r5)
def condM2 (C : List Tok → Rr) (t : Tm) : Rr → Rr
  | .error e => .error e
  | .ok (y, r3) => if sgH r3 = [58] then condM3 t y (C (r3.drop 1)) else .error 61
def condM (A C : List Tok → Rr) : Rr → Rr
  | .error e => .error e
  | .ok (t, r) => if sgH r = [63] then condM2 C t (A (r.drop 1)) else .ok (t, r)
theorem condD_doc (d : Rd) (dp : Nat) (l : List Tok) : condD d dp l = condM (d.all dp) (d.cond dp) (pairsK (leadD d dp) 10 l) := by
  unfold condD
  cases pairsK (leadD d dp) 10 l with
  | error e => rfl
  | ok p =>
    obtain ⟨t, r⟩ := p
    show _ = if sgH r = [63] then condM2 (d.cond dp) t (d.all dp (r.drop 1)) else .ok (t, r)
    dsimp only
    cases r with
    | nil => rfl
    | cons u r => cases u with
      | num x k => rfl
      | nam x => rfl
      | sg s =>
        show (if s = [63] then _ else _) = if s = [63] then condM2 (d.cond dp) t (d.all dp r) else _
        split
        · cases d.all dp r with
          | error e => rfl
          | ok p =>
            obtain ⟨y, r3⟩ := p
            show _ = if sgH r3 = [58] then condM3 t y (d.cond dp (r3.drop 1)) else .error 61
            dsimp only
            cases r3 with
            | nil => rfl
            | cons u r3 => cases u with
              | num x k => rfl
              | nam x => rfl
              | sg s2 =>
                show (if s2 = [58] then _ else _) = if s2 = [58] then condM3 t y (d.cond dp r3) else _
                split
                · cases d.cond dp r3 <;> rfl
                · rfl
        · rfl
theorem NdR.on {w W3 W4 W6 : World} {t : Tm} {S N : Bs} {k : Int} {K : Value} (hB : w.heap.size ≤ W3.heap.size) (hn : NdR (fun b => W3.heap.size ≤ b) W4 t S N k K) (h6 : Below W4.heap.size W4 W6) : NdR (fun b => w.heap.size < b) W6 t S N k K ∨ w.heap.size = W3.heap.size := by
  by_cases h : w.heap.size = W3.heap.size
  · exact .inr h
  · exact .inl (NdR.keep (fun b h1 h2 => ⟨by omega, Nat.lt_of_lt_of_le h2 h6.size, h6.block b h2⟩) t S N k _ hn)
theorem choice_done {T : List Tok} {w W9 W10 : World} {x y z : Tm} {S1 N1 S2 N2 S3 N3 : Bs} {k1 k2 k3 : Int} {K1 K2 K3 : Value} {m : Rr} {r : List Tok} {i : Nat} {kb : Nat} {nt : TypeId} (hm : m = .ok (.choice x y z, r)) (hr : T.drop i = r) (hi : i ≤ T.length)
    (hB : Below w.heap.size w W9) (h1 : NdR (fun b => w.heap.size < b) W9 x S1 N1 k1 K1) (h2 : NdR (fun b => w.heap.size < b) W9 y S2 N2 k2 K2) (h3 : NdR (fun b => w.heap.size < b) W9 z S3 N3 k3 K3)
    (h6 : Kept (· = w.heap.size) W9 W10) (hkb : W9.heap.size ≤ kb) (hrow : W10.heap[kb]? = some (.cells #[.string (nm S1), .string (nm N1), .int .i64 k1, K1, .string (nm S2), .string (nm N2), .int .i64 k2, K2, .string (nm S3), .string (nm N3), .int .i64 k3, K3] nt (0, 0))) :
    RdP T m w (.returned (.agg #[.string (nm [63]), .string (nm []), .int .i64 0, .slice (some ⟨kb, 0, none⟩) 3 3, .int .i64 i, .int .i64 0])) W10 := by
  have hs := hB.size
  have hk : ∀ (t : Tm) (S N : Bs) (k : Int) (K : Value), NdR (fun b => w.heap.size < b) W9 t S N k K → NdR (fun b => w.heap.size ≤ b) W10 t S N k K := fun t S N k K h => NdR.keep (fun b h1 h2 => ⟨by omega, Nat.lt_of_lt_of_le h2 h6.size, h6.block b h2 (by intro e; omega)⟩) t S N k K h
  refine RdP.yes (S := [63]) (N := []) (K := .slice (some ⟨kb, 0, none⟩) 3 3) hm (kept_box hB (Nat.le_refl _) h6) hr hi ?_ rfl rfl rfl
  exact ⟨rfl, kb, rfl, ⟨by omega, fin_at hrow⟩, ⟨_, _, _, _, cell_blk hrow 0, cell_blk hrow 1, cell_blk hrow 2, cell_blk hrow 3, hk _ _ _ _ _ h1⟩, ⟨_, _, _, _, cell_blk hrow 4, cell_blk hrow 5, cell_blk hrow 6, cell_blk hrow 7, hk _ _ _ _ _ h2⟩, ⟨_, _, _, _, cell_blk hrow 8, cell_blk hrow 9, cell_blk hrow 10, cell_blk hrow 11, hk _ _ _ _ _ h3⟩⟩
/-- A box is written, and two others are made. -/
theorem six_two {W : World} {b : Nat} {t : TypeId} {x0 x1 x2 x3 x4 x5 : Value} (h : W.heap[b]? = some (.cells #[x0, x1, x2, x3, x4, x5] t (0, 0))) (y0 y1 y2 y3 y4 y5 : Value) (o o2 : Obj) :
    ((((((((W.setCell ⟨b, 0, none⟩ y0).setCell ⟨b, 1, none⟩ y1).setCell ⟨b, 2, none⟩ y2).setCell ⟨b, 3, none⟩ y3).setCell ⟨b, 4, none⟩ y4).setCell ⟨b, 5, none⟩ y5).alloc o).alloc o2).heap[b]? = some (.cells #[y0, y1, y2, y3, y4, y5] t (0, 0)) ∧
    Kept (· = b) W ((((((((W.setCell ⟨b, 0, none⟩ y0).setCell ⟨b, 1, none⟩ y1).setCell ⟨b, 2, none⟩ y2).setCell ⟨b, 3, none⟩ y3).setCell ⟨b, 4, none⟩ y4).setCell ⟨b, 5, none⟩ y5).alloc o).alloc o2) ∧
    ((((((((W.setCell ⟨b, 0, none⟩ y0).setCell ⟨b, 1, none⟩ y1).setCell ⟨b, 2, none⟩ y2).setCell ⟨b, 3, none⟩ y3).setCell ⟨b, 4, none⟩ y4).setCell ⟨b, 5, none⟩ y5).alloc o).alloc o2).heap[W.heap.size + 1]? = some o2 := by
  obtain ⟨h1, h2⟩ := six_then h y0 y1 y2 y3 y4 y5 o
  refine ⟨(heap_alloc_old _ o2 (fin_at h1)).trans h1, h2.trans (kept_of_below (al _ o2)), ?_⟩
  have := two_new ((((((W.setCell ⟨b, 0, none⟩ y0).setCell ⟨b, 1, none⟩ y1).setCell ⟨b, 2, none⟩ y2).setCell ⟨b, 3, none⟩ y3).setCell ⟨b, 4, none⟩ y4).setCell ⟨b, 5, none⟩ y5) o o2
  simp only [World.size_setCell] at this
  exact this
abbrev z6 : Array Value := #[.string ByteArray.empty, .string ByteArray.empty, .int .i64 0, .slice none 0 0, .int .i64 0, .int .i64 0]
set_option maxRecDepth 100000 in
set_option maxHeartbeats 6400000 in
theorem rcond_any (d : Rd) (B b off c : Nat) (T : List Tok) (m dp : Nat) (hd : dp ≤ 65) (hP : RO 46 B b off c T (m + 1) #[.int .i64 ((0 : Nat) : Int), .int .i64 (dp : Int)] (pairsK (leadD d dp) 10)) (hA : RO 16 B b off c T m #[.int .i64 (dp : Int)] (d.all dp)) (hC : RO 29 B b off c T m #[.int .i64 (dp : Int)] (d.cond dp)) (hlp : Lss (pairsK (leadD d dp) 10)) (hla : Lss (d.all dp)) :
    RO 29 B b off c T (m + 1) #[.int .i64 (dp : Int)] (condD d dp) := by
  intro i x w hx hm hi hB h
  subst hx
  obtain ⟨res, hres⟩ : ∃ res, condD d dp (T.drop i) = res := ⟨_, rfl⟩
  rw [hres]
  rw [condD_doc] at hres
  show Calls _ _ #[.slice (some ⟨b, off, none⟩) T.length c, .int .i64 (i : Int), .int .i64 (dp : Int)] _ _
  obtain ⟨M, hM⟩ : ∃ M, pairsK (leadD d dp) 10 (T.drop i) = M := ⟨_, rfl⟩
  have HL : Hid (∀ W, Below w.heap.size w W → Calls Tryz.prog 46 #[.slice (some ⟨b, off, none⟩) T.length c, .int .i64 (i : Int), .int .i64 0, .int .i64 (dp : Int)] W (RdP T M W)) := Lib.hid (fun W hW => by rw [← hM]; exact hP i _ W rfl hm hi (Nat.le_trans hB hW.size) (h.below hB hW))
  have HA : Hid (∀ (i' : Nat) W, i < i' → i' ≤ T.length → Below w.heap.size w W → Calls Tryz.prog 16 #[.slice (some ⟨b, off, none⟩) T.length c, .int .i64 (i' : Int), .int .i64 (dp : Int)] W (RdP T (d.all dp (T.drop i')) W)) := Lib.hid (fun i' W h1 h2 hW => hA i' _ W rfl (by omega) h2 (Nat.le_trans hB hW.size) (h.below hB hW))
  have HC : Hid (∀ (i' : Nat) W, i < i' → i' ≤ T.length → Below w.heap.size w W → Calls Tryz.prog 29 #[.slice (some ⟨b, off, none⟩) T.length c, .int .i64 (i' : Int), .int .i64 (dp : Int)] W (RdP T (d.cond dp (T.drop i')) W)) := Lib.hid (fun i' W h1 h2 hW => hC i' _ W rfl (by omega) h2 (Nat.le_trans hB hW.size) (h.below hB hW))
  have HSG : Hid (∀ (i' : Nat) W, Below w.heap.size w W → Calls Tryz.prog 47 #[.slice (some ⟨b, off, none⟩) T.length c, .int .i64 (i' : Int)] W fun e w' => e = .returned (.string (nm (sgH (T.drop i')))) ∧ w' = W) := Lib.hid (fun i' W hW => rsign_any T B b off c i' _ rfl W (h.below hB hW) (Nat.le_trans hB hW.size))
  have HB0 := Lib.hid (al w (.cells z6 tR))
  have HX0 := Lib.hid (heap_alloc_new w (.cells z6 tR))
  have HLP := Lib.hid (fun (t : Tm) (r : List Tok) (e : M = .ok (t, r)) => hlp (T.drop i) t r (hM.trans e))
  have HLA := Lib.hid hla
  have HR : Hid (condM (d.all dp) (d.cond dp) M = res) := Lib.hid (by rw [← hM]; exact hres)
  have hl8 := h.len
  have hlc := h.cap
  obtain ⟨n, hn⟩ : ∃ n, T.length = n := ⟨_, rfl⟩
  have HN := Lib.hid hn
  rw [hn] at HL HA HC HSG hl8 hlc hi ⊢
  clear hP hA hC hlp hla h hres hM hm hn hB
  go_enter Tryz.func29, Tryz.ntmps29
  go_wp2_with fail
  refine (HL.out _ HB0.out).mono ?_
  intro e W4 hq
  obtain ⟨S1, N1, k1, A1, n1, c1, i1, x1, rfl⟩ := hq.form
  have HQ := Lib.hid hq
  have HX4 := Lib.hid ((hq.1.block w.heap.size (fin_at HX0.out)).trans HX0.out)
  have HB4 := Lib.hid (HB0.out.trans (hq.1.mono HB0.out.size))
  clear hq HL HX0
  by_cases hx1 : x1 = 0
  · subst hx1
    obtain ⟨t, r, S1, N1, j1, hM1, rfl, rfl, rfl, hr1, hj1, hn1⟩ := HQ.out.got
    have hlt1 : i < j1 := by
      have := HLP.out t r hM1
      rw [← hr1, List.length_drop, List.length_drop] at this
      omega
    have hR := HR.out
    rw [hM1] at hR
    replace hR : (if sgH r = [63] then condM2 (d.cond dp) t (d.all dp (r.drop 1)) else .ok (t, r)) = res := hR
    have hil1 : (j1 : Int) ≤ (n : Int) := by have := HN.out; omega
    have HSS : Hid (∀ o, Calls Tryz.prog 47 #[.slice (some ⟨b, off, none⟩) n c, .int .i64 (j1 : Int)] (W4.alloc o) fun e w' => e = .returned (.string (nm (sgH r))) ∧ w' = W4.alloc o) := Lib.hid (fun o => by have := HSG.out j1 _ (HB4.out.alloc HB4.out.size o); rw [hr1] at this; exact this)
    by_cases h63 : sgH r = [63]
    · rw [if_pos h63] at hR
      have q3 : ((nm (sgH r)).toList == [63]) = true := by rw [str_is, decide_eq_true h63]
      have q4 : ((nm (sgH r)).toList != [63]) = false := by rw [str_neq, decide_eq_true h63]; rfl
      have q5 : (nm (sgH r)).toList = [63] := by rw [listD, nm_data]; exact h63
      have hlt2 : j1 < T.length := Nat.lt_of_not_le (fun hge => by
        rw [← hr1, drop_no T j1 (by omega)] at h63
        simp [sgH] at h63)
      have hd1 : r.drop 1 = T.drop (j1 + 1) := by rw [← hr1, List.drop_drop]
      rw [hd1] at hR
      have HR2 := Lib.hid hR
      have HBA := Lib.hid (fun o => HB4.out.alloc HB4.out.size o)
      have HCA : Hid (∀ W, Below w.heap.size w W → Calls Tryz.prog 16 #[.slice (some ⟨b, off, none⟩) n c, .int .i64 ((j1 : Int) + 1), .int .i64 (dp : Int)] W (RdP T (d.all dp (T.drop (j1 + 1))) W)) := Lib.hid (fun W hW => by
        have := HA.out (j1 + 1) W (by omega) (by have := HN.out; omega) hW
        rw [show (((j1 + 1 : Nat)) : Int) = (j1 : Int) + 1 by push_cast; rfl] at this
        exact this)
      have HN1 : Hid (∀ W, Below W4.heap.size W4 W → NdR (fun b => w.heap.size < b) W t S1 N1 k1 (.slice A1 n1 c1)) := Lib.hid (fun W hW => NdR.keep (fun b h1 h2 => ⟨by simp at h1; omega, Nat.lt_of_lt_of_le h2 hW.size, hW.block b h2⟩) t S1 N1 k1 _ hn1)
      have hlw4 := fin_at HX4.out
      have hil2 : (j1 : Int) < (n : Int) := by have := HN.out; omega
      obtain ⟨SR, hSR⟩ : ∃ SR, nm (sgH r) = SR := ⟨_, rfl⟩
      rw [hSR] at q3 q4 q5 HSS
      obtain ⟨S1b, hS1⟩ : ∃ x, nm S1 = x := ⟨_, rfl⟩
      obtain ⟨N1b, hN1⟩ : ∃ x, nm N1 = x := ⟨_, rfl⟩
      have HS1 := Lib.hid hS1
      have HN1b := Lib.hid hN1
      rw [hS1, hN1]
      clear hR hn1 h63 hM1 hr1 hj1 hd1 hSR hS1 hN1 HQ
      go_wp2_with (go_at_call 47; refine (HSS.out _).mono ?_; rintro e W5 ⟨rfl, rfl⟩)
      refine calls_gen (fun W => Below W4.heap.size W4 W ∧ W.heap[W4.heap.size]? = some (.cells #[.string S1b, .string N1b, .int .i64 k1, .slice A1 n1 c1, .int .i64 (j1 : Int), .int .i64 0] tR (0, 0))) ⟨al W4 _, heap_alloc_new W4 _⟩ ?_
      rintro W5 ⟨hb5, ha5⟩
      have HB45 := Lib.hid hb5
      have HB5 := Lib.hid (HB4.out.trans (hb5.mono HB4.out.size))
      have HX5 := Lib.hid ((hb5.block w.heap.size hlw4).trans HX4.out)
      have HA5 := Lib.hid ha5
      generalize hab : W4.heap.size = ab at *
      have HAB := Lib.hid hab
      clear hb5 ha5 hab HSS q3 q4 q5
      refine (HCA.out _ HB5.out).mono ?_
      intro e W6 hq
      obtain ⟨S2, N2, k2, A2, n2, c2, i2, x2, rfl⟩ := hq.form
      have HQ := Lib.hid hq
      have HB56 := Lib.hid hq.1
      have hs56 := hq.1.size
      have HX6 := Lib.hid ((hq.1.block w.heap.size (fin_at HX5.out)).trans HX5.out)
      have HA6 := Lib.hid ((hq.1.block ab (fin_at HA5.out)).trans HA5.out)
      have HB6 := Lib.hid (HB5.out.trans (hq.1.mono HB5.out.size))
      have HB46 := Lib.hid (HB45.out.trans (hq.1.mono (by have := HB45.out.size; have := HAB.out; omega)))
      have hz5 := fin_at HA5.out
      clear hq HCA
      by_cases hx2 : x2 = 0
      · subst hx2
        obtain ⟨y, r3, S2, N2, j2, hM2, rfl, rfl, rfl, hr2, hj2, hn2⟩ := HQ.out.got
        have hlt3 : j1 + 1 < j2 := by
          have := HLA.out _ _ _ hM2
          rw [← hr2, List.length_drop, List.length_drop] at this
          omega
        have hR := HR2.out
        rw [hM2] at hR
        replace hR : (if sgH r3 = [58] then condM3 t y (d.cond dp (r3.drop 1)) else .error 61) = res := hR
        have hil3 : (j2 : Int) ≤ (n : Int) := by have := HN.out; omega
        have HSS : Hid (∀ o, Calls Tryz.prog 47 #[.slice (some ⟨b, off, none⟩) n c, .int .i64 (j2 : Int)] (W6.alloc o) fun e w' => e = .returned (.string (nm (sgH r3))) ∧ w' = W6.alloc o) := Lib.hid (fun o => by have := HSG.out j2 _ (HB6.out.alloc HB6.out.size o); rw [hr2] at this; exact this)
        by_cases h58 : sgH r3 = [58]
        · rw [if_pos h58] at hR
          have q3 : ((nm (sgH r3)).toList == [58]) = true := by rw [str_is, decide_eq_true h58]
          have q4 : ((nm (sgH r3)).toList != [58]) = false := by rw [str_neq, decide_eq_true h58]; rfl
          have q5 : (nm (sgH r3)).toList = [58] := by rw [listD, nm_data]; exact h58
          have hlt4 : j2 < T.length := Nat.lt_of_not_le (fun hge => by
            rw [← hr2, drop_no T j2 (by omega)] at h58
            simp [sgH] at h58)
          have hd2 : r3.drop 1 = T.drop (j2 + 1) := by rw [← hr2, List.drop_drop]
          rw [hd2] at hR
          have HR3 := Lib.hid hR
          have HCC : Hid (∀ W, Below w.heap.size w W → Calls Tryz.prog 29 #[.slice (some ⟨b, off, none⟩) n c, .int .i64 ((j2 : Int) + 1), .int .i64 (dp : Int)] W (RdP T (d.cond dp (T.drop (j2 + 1))) W)) := Lib.hid (fun W hW => by
            have := HC.out (j2 + 1) W (by omega) (by have := HN.out; omega) hW
            rw [show (((j2 + 1 : Nat)) : Int) = (j2 : Int) + 1 by push_cast; rfl] at this
            exact this)
          have hlw5 := (HB5.out).size
          have HN2 : Hid (∀ W, Below W6.heap.size W6 W → NdR (fun b => w.heap.size < b) W y S2 N2 k2 (.slice A2 n2 c2)) := Lib.hid (fun W hW => NdR.keep (fun b h1 h2 => ⟨by omega, Nat.lt_of_lt_of_le h2 hW.size, hW.block b h2⟩) y S2 N2 k2 _ hn2)
          have hlw6 := fin_at HX6.out
          have hla6 := fin_at HA6.out
          have hil4 : (j2 : Int) < (n : Int) := by have := HN.out; omega
          obtain ⟨SR2, hSR2⟩ : ∃ SR2, nm (sgH r3) = SR2 := ⟨_, rfl⟩
          rw [hSR2] at q3 q4 q5 HSS
          obtain ⟨S2b, hS2⟩ : ∃ x, nm S2 = x := ⟨_, rfl⟩
          obtain ⟨N2b, hN2⟩ : ∃ x, nm N2 = x := ⟨_, rfl⟩
          have HS2 := Lib.hid hS2
          have HN2b := Lib.hid hN2
          rw [hS2, hN2]
          clear hR hn2 h58 hM2 hr2 hj2 hd2 hSR2 hS2 hN2 HQ
          go_wp2_with (go_at_call 47; refine (HSS.out _).mono ?_; rintro e W7 ⟨rfl, rfl⟩)
          refine calls_gen (fun W => Below W6.heap.size W6 W ∧ W.heap[W6.heap.size]? = some (.cells #[.string S2b, .string N2b, .int .i64 k2, .slice A2 n2 c2, .int .i64 (j2 : Int), .int .i64 0] tR (0, 0))) ⟨al W6 _, heap_alloc_new W6 _⟩ ?_
          rintro W7 ⟨hb7, ha7⟩
          have HB67 := Lib.hid hb7
          have HB7 := Lib.hid (HB6.out.trans (hb7.mono HB6.out.size))
          have HX7 := Lib.hid ((hb7.block w.heap.size hlw6).trans HX6.out)
          have HA7 := Lib.hid ((hb7.block ab hla6).trans HA6.out)
          have HBB7 := Lib.hid ha7
          have HB47 := Lib.hid (HB46.out.trans (hb7.mono (by have := HB46.out.size; have := HAB.out; omega)))
          have hne1 : ¬ ab = W6.heap.size := by omega
          generalize hbb : W6.heap.size = bb at *
          have HBBE := Lib.hid hbb
          clear hb7 ha7 hbb HSS q3 q4 q5
          refine (HCC.out _ HB7.out).mono ?_
          intro e W8 hq
          obtain ⟨S3, N3, k3, A3, n3, c3, i3, x3, rfl⟩ := hq.form
          have HQ := Lib.hid hq
          have HX8 := Lib.hid ((hq.1.block w.heap.size (fin_at HX7.out)).trans HX7.out)
          have HA8 := Lib.hid ((hq.1.block ab (fin_at HA7.out)).trans HA7.out)
          have HBB8 := Lib.hid ((hq.1.block bb (fin_at HBB7.out)).trans HBB7.out)
          have HB8 := Lib.hid (HB7.out.trans (hq.1.mono HB7.out.size))
          have HB48 := Lib.hid (HB47.out.trans (hq.1.mono (by have := HB47.out.size; have := HAB.out; omega)))
          have HB68 := Lib.hid (HB67.out.trans (hq.1.mono (by have := HB67.out.size; have := HBBE.out; omega)))
          have hz7 := fin_at HBB7.out
          have hs78 := hq.1.size
          clear hq HCC
          by_cases hx3 : x3 = 0
          · subst hx3
            obtain ⟨z, r5, S3, N3, j3, hM3, rfl, rfl, rfl, hr3, hj3, hn3⟩ := HQ.out.got
            have hR := HR3.out
            rw [hM3] at hR
            replace hR : (.ok (.choice t y z, r5) : Rr) = res := hR
            have hlw7 := (HB7.out).size
            have HN3 : Hid (∀ W, Below W8.heap.size W8 W → NdR (fun b => w.heap.size < b) W z S3 N3 k3 (.slice A3 n3 c3)) := Lib.hid (fun W hW => NdR.keep (fun b h1 h2 => ⟨by omega, Nat.lt_of_lt_of_le h2 hW.size, hW.block b h2⟩) z S3 N3 k3 _ hn3)
            have hlw8 := fin_at HX8.out
            have hla8 := fin_at HA8.out
            have hlb8 := fin_at HBB8.out
            have HDN : Hid (∀ W9 W10 kb nt, Below W8.heap.size W8 W9 → Kept (· = w.heap.size) W9 W10 → W9.heap.size ≤ kb → W10.heap[kb]? = some (.cells #[.string S1b, .string N1b, .int .i64 k1, .slice A1 n1 c1, .string S2b, .string N2b, .int .i64 k2, .slice A2 n2 c2, .string (nm S3), .string (nm N3), .int .i64 k3, .slice A3 n3 c3] nt (0, 0)) → RdP T res w (.returned (.agg #[.string (nm [63]), .string (nm []), .int .i64 0, .slice (some ⟨kb, 0, none⟩) 3 3, .int .i64 (j3 : Int), .int .i64 0])) W10) := Lib.hid (fun W9 W10 kb nt h89 h9 hkb hrow => by
              rw [← HS1.out, ← HN1b.out, ← HS2.out, ← HN2b.out] at hrow
              exact choice_done hR.symm hr3 hj3 (HB8.out.trans (h89.mono HB8.out.size)) (HN1.out _ (HB48.out.trans (h89.mono (by have := HB48.out.size; have := HAB.out; omega)))) (HN2.out _ (HB68.out.trans (h89.mono (by have := HB68.out.size; have := HBBE.out; omega)))) (HN3.out _ h89) h9 hkb hrow)
            generalize nm S3 = S3 at *
            generalize nm N3 = N3 at *
            clear hR hn3 hM3 hr3 hj3 HQ HN3
            obtain ⟨a0, a1, a2, a3, -, -, -, -, -, -, -, -, -⟩ := box6 HA8.out
            obtain ⟨b0, b1, b2, b3, -, -, -, -, -, -, -, -, -⟩ := box6 HBB8.out
            obtain ⟨d0, d1, d2, d3, d4, d5, p0, p1, p2, p3, p4, p5, hzw⟩ := box6 HX8.out
            go_wp2_with fail
            refine bodyPost_ret (results_cell_row rfl _ _ _ tR _ (0, 0) _ rfl (six_two HX8.out _ _ _ _ _ _ _ _).1 Tryz.underlying61 rfl (by kernel_rfl)) rfl ?_
            exact HDN.out W8 _ _ _ (Below.refl _ _) (six_two HX8.out _ _ _ _ _ _ _ _).2.1 (Nat.le_succ _) (six_two HX8.out _ _ _ _ _ _ _ _).2.2
          · have hME := HQ.out.fell hx3
            have hR := HR3.out
            rw [hME] at hR
            replace hR : (.error x3 : Rr) = res := hR
            have HF : Hid (∀ W9, Kept (· = w.heap.size) W8 W9 → RdP T res w (.returned (.agg #[.string S3, .string N3, .int .i64 k3, .slice A3 n3 c3, .int .i64 i3, .int .i64 x3])) W9) := Lib.hid (fun W9 h6 => RdP.badv hR.symm hx3 HB8.out h6)
            obtain ⟨d0, d1, d2, d3, d4, d5, p0, p1, p2, p3, p4, p5, hzw⟩ := box6 HX8.out
            clear hME hR
            go_wp2_with fail
            refine bodyPost_ret (results_cell_row rfl _ _ _ tR _ (0, 0) _ rfl (six_then HX8.out _ _ _ _ _ _ _).1 Tryz.underlying61 rfl (by kernel_rfl)) rfl ?_
            exact HF.out _ (six_then HX8.out _ _ _ _ _ _ _).2
        · rw [if_neg h58] at hR
          have q3 : ((nm (sgH r3)).toList == [58]) = false := by rw [str_is, decide_eq_false h58]
          have q4 : ((nm (sgH r3)).toList != [58]) = true := by rw [str_neq, decide_eq_false h58]; rfl
          have q5 : ¬ (nm (sgH r3)).toList = [58] := by rw [listD, nm_data]; exact h58
          have HF : Hid (∀ W9, Kept (· = w.heap.size) W6 W9 → RdP T res w (.returned (.agg #[.string ByteArray.empty, .string ByteArray.empty, .int .i64 0, .slice none 0 0, .int .i64 0, .int .i64 61])) W9) := Lib.hid (fun W9 h6 => RdP.badv hR.symm (by decide) HB6.out h6)
          obtain ⟨d0, d1, d2, d3, d4, d5, p0, p1, p2, p3, p4, p5, hzw⟩ := box6 HX6.out
          generalize nm (sgH r3) = SR2 at *
          generalize nm S2 = S2 at *
          generalize nm N2 = N2 at *
          clear hR hn2 h58 hM2 hr2 hj2
          go_wp2_with (go_at_call 47; refine (HSS.out _).mono ?_; rintro e W7 ⟨rfl, rfl⟩)
          refine bodyPost_ret (results_cell_row rfl _ _ _ tR _ (0, 0) _ rfl (six_then HX6.out _ _ _ _ _ _ _).1 Tryz.underlying61 rfl (by kernel_rfl)) rfl ?_
          exact HF.out _ (six_then HX6.out _ _ _ _ _ _ _).2
      · have hME := HQ.out.fell hx2
        have hR := HR2.out
        rw [hME] at hR
        replace hR : (.error x2 : Rr) = res := hR
        have HF : Hid (∀ W9, Kept (· = w.heap.size) W6 W9 → RdP T res w (.returned (.agg #[.string S2, .string N2, .int .i64 k2, .slice A2 n2 c2, .int .i64 i2, .int .i64 x2])) W9) := Lib.hid (fun W9 h6 => RdP.badv hR.symm hx2 HB6.out h6)
        obtain ⟨d0, d1, d2, d3, d4, d5, p0, p1, p2, p3, p4, p5, hzw⟩ := box6 HX6.out
        clear hME hR
        go_wp2_with fail
        refine bodyPost_ret (results_cell_row rfl _ _ _ tR _ (0, 0) _ rfl (six_then HX6.out _ _ _ _ _ _ _).1 Tryz.underlying61 rfl (by kernel_rfl)) rfl ?_
        exact HF.out _ (six_then HX6.out _ _ _ _ _ _ _).2
    · rw [if_neg h63] at hR
      have q3 : ((nm (sgH r)).toList == [63]) = false := by rw [str_is, decide_eq_false h63]
      have q4 : ((nm (sgH r)).toList != [63]) = true := by rw [str_neq, decide_eq_false h63]; rfl
      have q5 : ¬ (nm (sgH r)).toList = [63] := by rw [listD, nm_data]; exact h63
      have HF : Hid (∀ W6, Kept (· = w.heap.size) W4 W6 → RdP T res w (.returned (.agg #[.string (nm S1), .string (nm N1), .int .i64 k1, .slice A1 n1 c1, .int .i64 (j1 : Int), .int .i64 0])) W6) := Lib.hid (fun W6 h6 => by
        obtain ⟨g1, g2⟩ := pass_on HB0.out (by simp) HQ.out.1 hn1 h6
        exact RdP.yes hR.symm g1 hr1 hj1 g2 rfl rfl rfl)
      have HY4 := Lib.hid HX4.out
      obtain ⟨d0, d1, d2, d3, d4, d5, p0, p1, p2, p3, p4, p5, hzw⟩ := box6 HX4.out
      generalize nm (sgH r) = SR at *
      generalize nm S1 = S1 at *
      generalize nm N1 = N1 at *
      clear hR hn1 h63 hM1 hr1 hj1
      go_wp2_with (go_at_call 47; refine (HSS.out _).mono ?_; rintro e W5 ⟨rfl, rfl⟩)
      refine bodyPost_ret (results_cell_row rfl _ _ _ tR _ (0, 0) _ rfl (six_then HY4.out _ _ _ _ _ _ _).1 Tryz.underlying61 rfl (by kernel_rfl)) rfl ?_
      exact HF.out _ (six_then HY4.out _ _ _ _ _ _ _).2
  · have hME := HQ.out.fell hx1
    have hR := HR.out
    rw [hME] at hR
    replace hR : (.error x1 : Rr) = res := hR
    have HF : Hid (∀ W6, Kept (· = w.heap.size) W4 W6 → RdP T res w (.returned (.agg #[.string S1, .string N1, .int .i64 k1, .slice A1 n1 c1, .int .i64 i1, .int .i64 x1])) W6) := Lib.hid (fun W6 h6 => RdP.badv hR.symm hx1 HB4.out h6)
    have HY4 := Lib.hid HX4.out
    obtain ⟨d0, d1, d2, d3, d4, d5, p0, p1, p2, p3, p4, p5, hzw⟩ := box6 HX4.out
    clear hME hR
    go_wp2_with fail
    refine bodyPost_ret (results_cell_row rfl _ _ _ tR _ (0, 0) _ rfl (six_then HY4.out _ _ _ _ _ _ _).1 Tryz.underlying61 rfl (by kernel_rfl)) rfl ?_
    exact HF.out _ (six_then HY4.out _ _ _ _ _ _ _).2

end Go.Proofs.YtcadnkanjlmfhaaGreatDoor.Ar
namespace Go.Proofs.YtcadnkanjlmfhaaGreatDoor.Ar
open Go.RowKit
open PathM WdM ArM
open Go.Proofs.YtcadnkanjlmfhaaGreatDoor.Wd
set_option linter.unusedVariables false

set_option maxRecDepth 100000 in
set_option maxHeartbeats 3200000 in
theorem rlev_some (B b off c : Nat) (T : List Tok) (m : Nat) (nest : Int) (q j : Nat) (hq : q + j = 9) (lead : List Tok → Rr) (hS : RO 46 B b off c T m #[.int .i64 ((q : Int) + 1), .int .i64 nest] (pairsK lead j)) (hs : Lss (pairsK lead j)) :
    RO 46 B b off c T m #[.int .i64 (q : Int), .int .i64 nest] (pairsK lead (j + 1)) := by
  intro i x w hx hm hi hB h
  subst hx
  obtain ⟨res, hres⟩ : ∃ res, pairsK lead (j + 1) (T.drop i) = res := ⟨_, rfl⟩
  rw [hres]
  rw [pairsK, show 10 - j = q + 1 by omega] at hres
  show Calls _ _ #[.slice (some ⟨b, off, none⟩) T.length c, .int .i64 (i : Int), .int .i64 (q : Int), .int .i64 nest] _ _
  obtain ⟨sub, hsub⟩ : ∃ sub, pairsK lead j = sub := ⟨_, rfl⟩
  rw [hsub] at hS hs hres
  have HS : Hid (∀ (i' : Nat) (x : Int) W, x = (i' : Int) → T.length - i' < m → i' ≤ T.length → Below w.heap.size w W → Calls Tryz.prog 46 #[.slice (some ⟨b, off, none⟩) T.length c, .int .i64 x, .int .i64 ((q : Int) + 1), .int .i64 nest] W (RdP T (sub (T.drop i')) W)) := Lib.hid (fun i' x W hx h1 h2 hW => hS i' x W hx h1 h2 (Nat.le_trans hB hW.size) (h.below hB hW))
  have HSG : Hid (∀ (i' : Nat) (x : Int) W, x = (i' : Int) → Below w.heap.size w W → Calls Tryz.prog 47 #[.slice (some ⟨b, off, none⟩) T.length c, .int .i64 x] W fun e w' => e = .returned (.string (nm (sgH (T.drop i')))) ∧ w' = W) := Lib.hid (fun i' x W hx hW => rsign_any T B b off c i' x hx W (h.below hB hW) (Nat.le_trans hB hW.size))
  have HTK : Hid (∀ W, Below w.heap.size w W → RTk B W b off c T) := Lib.hid (fun W hW => h.below hB hW)
  have HLV := Lib.hid rlevels_any
  have HB0 := Lib.hid (al w (.cells zero6 tR))
  have HX0 := Lib.hid (heap_alloc_new w (.cells zero6 tR))
  unfold zero6 at HB0
  have HM := Lib.hid hm
  have HI := Lib.hid hi
  have HR := Lib.hid hres
  have HLS := Lib.hid hs
  have hbw : b < w.heap.size := Nat.lt_of_lt_of_le h.lt hB
  have hlc := h.cap
  have hl8 := h.len
  have hq10 : (q : Int) < 10 := by omega
  obtain ⟨n, hn⟩ : ∃ n, T.length = n := ⟨_, rfl⟩
  have HN := Lib.hid hn
  rw [hn] at HS HSG hlc hl8 ⊢
  clear h hS hm hi hres hs hsub hB hn hq lead j
  go_enter Tryz.func46, Tryz.ntmps46
  go_wp2_with (first | (go_at_call 62; refine (HLV.out _).mono ?_; rintro e W ⟨bl, rfl, hlv, hb⟩; have HX := Lib.hid ((hb.block w.heap.size (by simp)).trans HX0.out); have HB := Lib.hid (HB0.out.trans (hb.mono HB0.out.size)); have HZ := Lib.hid (Nat.lt_of_lt_of_le (show w.heap.size < _ by simp) hb.size); clear hlv hb) | (go_at_call 46; refine (HS.out i _ _ rfl (by rw [← HN.out]; exact HM.out) (by rw [← HN.out]; exact HI.out) HB.out).mono ?_; rintro e W1 hq; obtain ⟨S, N, k, A, nn, cc, ii, xx, rfl⟩ := hq.form; have HQ := Lib.hid hq; clear hq))
  have hg := lv_init (o := .cells #[.string S, .string N, .int .i64 k, .slice A nn cc, .int .i64 ii, .int .i64 xx] tR) HR.out HLS.out HM.out HB.out HX.out HQ.out (heap_alloc_new _ _) (Kept.refl _ _)
  obtain ⟨g, hg⟩ := hg
  have HG := Lib.hid hg
  clear hg HQ HX HB HZ HR HM HI HX0 HB0
  generalize W1.heap.size = ab at *
  go_loopg [] g (fun gk wr => LvSt T m w wr ab q sub res gk)
  case atStart => exact HG.out
  case round =>
    clear HG
    obtain ⟨hB, hX, hab, S', N', k', A', n', c', ii', ev, hbx, hst⟩ := hrel
    have HB := Lib.hid hB
    have HX := Lib.hid hX
    have HBX := Lib.hid hbx
    rcases hst with ⟨rfl, t, S1, N1, i1, f1, rfl, rfl, rfl, rfl, hok⟩ | ⟨hne, rfl, hres⟩
    · have hgo : q < 10 := by omega
      have hi1 := hok.le
      have habW := fin_at hbx
      have HSGi := Lib.hid (HSG.out i1 _ wr rfl hB)
      have HONE : Hid (∀ W bk, StIn W bk (lvS q) → Calls Tryz.prog 45 #[.string (nm (sgH (T.drop i1))), .slice (some ⟨bk, 0, none⟩) (lvS q).length (lvS q).length] W fun e w' => e = .returned (.bool (decide (tightOf (sgH (T.drop i1)) = q + 1))) ∧ w' = W) := Lib.hid (fun W bk h => by
        have := rone_any (lvS q) (sgH (T.drop i1)) bk W h
        rw [lv_tight _ q hgo] at this
        exact this)
      have HLVS : Hid (∀ W bl, LvIn W bl → ∃ bk, W.cell? ⟨bl, q, none⟩ = some (.slice (some ⟨bk, 0, none⟩) (lvS q).length (lvS q).length) ∧ StIn W bk (lvS q)) := Lib.hid (fun W bl h => h.rows q hgo)
      generalize (lvS q).length = L at *
      by_cases ht : tightOf (sgH (T.drop i1)) = q + 1
      · obtain ⟨hil, sg, hT, htg, hsg⟩ := sg_of_tight ht
        rw [decide_eq_true ht] at HONE
        rw [hsg] at HSGi HONE
        have HS1 : Hid (∀ W, Below w.heap.size w W → Calls Tryz.prog 46 #[.slice (some ⟨b, off, none⟩) n c, .int .i64 ((i1 : Int) + 1), .int .i64 ((q : Int) + 1), .int .i64 nest] W (RdP T (sub (T.drop (i1 + 1))) W)) := Lib.hid (fun W hW => HS.out (i1 + 1) _ W (by push_cast; rfl) (by rw [← HN.out]; have := hok.few; omega) (by rw [← HN.out]; omega) hW)
        have HNX := Lib.hid (@lv_next T m w wr · · · · ab q sub res t S1 N1 k' A' n' c' i1 f1 sg · · · · · · · · · HB.out HX.out hab habW hok HLS.out hil hT htg)
        have HFL : Hid (∀ W3 W4 S2 N2 k2 A2 n2 c2 i2 x2, RdP T (sub (T.drop (i1 + 1))) W3 (.returned (.agg #[.string S2, .string N2, .int .i64 k2, .slice A2 n2 c2, .int .i64 i2, .int .i64 x2])) W4 → x2 ≠ 0 → res = .error x2) := Lib.hid (fun W3 W4 S2 N2 k2 A2 n2 c2 i2 x2 hP hx => lv_fall hP hx hok.fuel hil hT htg hok.loop)
        have HTC : Hid (∀ W, Below w.heap.size w W → W.cell? ⟨b, off + i1 * 3, none⟩ = some (.string (nm sg)) ∧ W.cell? ⟨b, off + i1 * 3 + 1, none⟩ = some (.string (nm [])) ∧ W.cell? ⟨b, off + i1 * 3 + 2, none⟩ = some (.int .i64 0)) := Lib.hid (fun W hW => by
          have := (HTK.out W hW).cells i1 hil
          rw [hT] at this
          exact this)
        have hil2 : (i1 : Int) < (n : Int) := by have := HN.out; omega
        have hbw2 : b < wr.heap.size := Nat.lt_of_lt_of_le hbw hB.size
        generalize nm sg = SG at *
        generalize nm [] = E0 at *
        generalize nm S1 = S1 at *
        generalize nm N1 = N1 at *
        clear hT htg hsg ht hok hX hi1
        obtain ⟨c0, c1, c2, c3, c4, c5, -, -, -, -, -, -, -⟩ := box6 hbx
        clear hbx
        have HBX0 := Lib.hid habW
        go_wp2_with (first | (go_at_call 47; refine HSGi.out.mono ?_; rintro e W2 ⟨rfl, rfl⟩) | (go_at_call 62; refine (HLV.out _).mono ?_; rintro e W3 ⟨bl2, rfl, hlv, hb3⟩; obtain ⟨bk, r0, hst3⟩ := HLVS.out _ _ hlv; have hlt3 := hlv.lt; have HST3 := Lib.hid hst3; have HB3 := Lib.hid hb3; have HBX3 := Lib.hid ((hb3.block ab habW).trans HBX.out); have HX3 := Lib.hid ((hb3.block w.heap.size (fin_at HX.out)).trans HX.out); obtain ⟨g0, g1, g2, g3, g4, g5, -, -, -, -, -, -, hz3⟩ := box6 HBX3.out; clear hlv hb3 hst3) | (go_at_call 45; refine (HONE.out _ _ HST3.out).mono ?_; rintro e W2 ⟨rfl, rfl⟩))
        have HB03 := Lib.hid (HB.out.trans (HB3.out.mono HB.out.size))
        refine (HS1.out _ HB03.out).mono ?_
        intro e W4 hq
        obtain ⟨S9, N9, k9, A9, m9, q9, i9, x9, rfl⟩ := hq.form
        have HQ := Lib.hid hq
        have HBX4 := Lib.hid ((hq.1.block ab hz3).trans HBX3.out)
        have HX4 := Lib.hid ((hq.1.block w.heap.size (fin_at HX3.out)).trans HX3.out)
        have HB04 := Lib.hid (HB03.out.trans (hq.1.mono HB03.out.size))
        clear hq r0 g0 g1 g2 g3 g4 g5 c0 c1 c2 c3 c4 c5 hlt3 HST3 HONE HLVS HSGi HS1
        by_cases hx9 : x9 = 0
        · subst hx9
          have hT4 := HTC.out _ HB04.out
          have hz4 := fin_at HBX4.out
          have hbz4 : b < W4.heap.size := Nat.lt_of_lt_of_le hbw2 (Nat.le_trans HB3.out.size HQ.out.1.size)
          have ha5 := fun o => (heap_alloc_old W4 o hz4).trans HBX4.out
          have hb5 := fun o => heap_alloc_new W4 o
          have ht5 := fun o => HTC.out _ (HB04.out.alloc HB04.out.size o)
          have h45 := fun o => al W4 o
          have HP4 := Lib.hid HQ.out
          go_wp2_with fail
          refine wp_gen (fun W => W.heap[ab]? = some (.cells #[.string S1, .string N1, .int .i64 k', .slice A' n' c', .int .i64 i1, .int .i64 0] tR (0, 0)) ∧ W.heap[W4.heap.size]? = some (.cells #[.string S9, .string N9, .int .i64 k9, .slice A9 m9 q9, .int .i64 i9, .int .i64 0] tR (0, 0)) ∧ (W.cell? ⟨b, off + i1 * 3, none⟩ = some (.string SG) ∧ W.cell? ⟨b, off + i1 * 3 + 1, none⟩ = some (.string E0) ∧ W.cell? ⟨b, off + i1 * 3 + 2, none⟩ = some (.int .i64 0)) ∧ Below W4.heap.size W4 W ∧ W4.heap.size < W.heap.size) ⟨ha5 _, hb5 _, ht5 _, h45 _, by simp⟩ ?_
          rintro W5 ⟨ha5, hb5, ⟨t0, t1, t2⟩, h45, h55⟩
          have HA5 := Lib.hid ha5
          have H45 := Lib.hid h45
          obtain ⟨c0, c1, c2, c3, c4, c5, p0, p1, p2, p3, p4, p5, hz5⟩ := box6 ha5
          obtain ⟨d0, d1, d2, d3, d4, d5, -, -, -, -, -, -, hy5⟩ := box6 hb5
          have hne : ¬ ab = W4.heap.size := by omega
          have hbz5 : b < W5.heap.size := by omega
          have HBB := Lib.hid h45
          generalize W4.heap.size = bb at hne hz4 hy5 h55 d0 d1 d2 d3 d4 d5 hbz4 ⊢
          clear ha5 hb5 h45 hT4
          go_region
          refine gen_at (fun W => ∃ g', g' < T.length - i1 + 1 ∧ LvSt T m w W ab q sub res g') ?_ ?_
          · obtain ⟨h6, h7⟩ := six_then HA5.out (.string SG) (.string E0) (.int .i64 0) (.slice (some ⟨W5.heap.size, 0, none⟩) 2 2) (.int .i64 i9) (.int .i64 0) (.cells #[.string S1, .string N1, .int .i64 k', .slice A' n' c', .string S9, .string N9, .int .i64 k9, .slice A9 m9 q9] 59)
            refine HNX.out _ _ _ _ _ _ _ _ _ _ _ _ 59 HB3.out HP4.out HBB.out (h7.trans (kept_drew _)) (Nat.le_refl W5.heap.size) ?_ h6
            have := heap_alloc_new ((((((W5.setCell ⟨ab, 0, none⟩ (.string SG)).setCell ⟨ab, 1, none⟩ (.string E0)).setCell ⟨ab, 2, none⟩ (.int .i64 0)).setCell ⟨ab, 3, none⟩ (.slice (some ⟨W5.heap.size, 0, none⟩) 2 2)).setCell ⟨ab, 4, none⟩ (.int .i64 i9)).setCell ⟨ab, 5, none⟩ (.int .i64 0)) (.cells #[.string S1, .string N1, .int .i64 k', .slice A' n' c', .string S9, .string N9, .int .i64 k9, .slice A9 m9 q9] 59)
            simp only [World.size_setCell] at this
            exact this
          · rintro W6 ⟨g', hg', hst'⟩
            have HST' := Lib.hid hst'
            clear hst'
            go_wp2_with fail
            go_roundg g'
            case measure => exact hg'
            case rel => exact HST'.out
        · have hX4 := HX4.out
          unfold zero6 at hX4
          obtain ⟨d0, d1, d2, d3, d4, d5, p0, p1, p2, p3, p4, p5, hzw⟩ := box6 hX4
          have HE : Hid (∀ W, Kept (· = w.heap.size) W4 W → RdP T res w (.returned (.agg #[.string S9, .string N9, .int .i64 k9, .slice A9 m9 q9, .int .i64 i9, .int .i64 x9])) W) := Lib.hid (fun W hk => RdP.bad (HFL.out _ _ _ _ _ _ _ _ _ _ HQ.out hx9) hx9 (kept_box HB04.out (Nat.le_refl _) hk))
          have HY4 := Lib.hid hX4
          clear hX4
          go_wp2_with fail
          refine bodyPost_ret (results_cell_row rfl _ _ _ tR _ (0, 0) _ rfl (six_then HY4.out _ _ _ _ _ _ _).1 Tryz.underlying61 rfl (by kernel_rfl)) rfl ?_
          exact HE.out _ (six_then HY4.out _ _ _ _ _ _ _).2
      · rw [decide_eq_false ht] at HONE
        have HE : Hid (∀ W2 W, Below wr.heap.size wr W2 → Kept (· = w.heap.size) W2 W → RdP T res w (.returned (.agg #[.string (nm S1), .string (nm N1), .int .i64 k', .slice A' n' c', .int .i64 i1, .int .i64 0])) W) := Lib.hid (fun W2 W h2 hk => lv_done HB.out hok ht h2 hk)
        generalize nm (sgH (T.drop i1)) = SG at *
        generalize nm S1 = S1 at *
        generalize nm N1 = N1 at *
        clear ht hok hX hi1
        obtain ⟨c0, c1, c2, c3, c4, c5, -, -, -, -, -, -, -⟩ := box6 hbx
        clear hbx
        go_wp2_with (first | (go_at_call 47; refine HSGi.out.mono ?_; rintro e W2 ⟨rfl, rfl⟩) | (go_at_call 62; refine (HLV.out _).mono ?_; rintro e W3 ⟨bl2, rfl, hlv, hb3⟩; obtain ⟨bk, r0, hst3⟩ := HLVS.out _ _ hlv; have hlt3 := hlv.lt; have HST3 := Lib.hid hst3; have HB3 := Lib.hid hb3; have HX3 := Lib.hid ((hb3.block w.heap.size (fin_at HX.out)).trans HX.out); have hx3 := HX3.out; unfold zero6 at hx3; have HY3 := Lib.hid hx3; obtain ⟨g0, g1, g2, g3, g4, g5, -, -, -, -, -, -, hz3⟩ := box6 ((hb3.block ab habW).trans HBX.out); obtain ⟨d0, d1, d2, d3, d4, d5, p0, p1, p2, p3, p4, p5, hzw⟩ := box6 hx3; clear hlv hb3 hst3 hx3) | (go_at_call 45; refine (HONE.out _ _ HST3.out).mono ?_; rintro e W2 ⟨rfl, rfl⟩))
        refine bodyPost_ret (results_cell_row rfl _ _ _ tR _ (0, 0) _ rfl (six_set HY3.out _ _ _ _ _ _).1 Tryz.underlying61 rfl (by kernel_rfl)) rfl ?_
        exact HE.out _ _ HB3.out (six_set HY3.out _ _ _ _ _ _).2
    · obtain ⟨c0, c1, c2, c3, c4, c5, -, -, -, -, -, -, hza⟩ := box6 hbx
      unfold zero6 at hX
      obtain ⟨d0, d1, d2, d3, d4, d5, f0, f1, f2, f3, f4, f5, hzw⟩ := box6 hX
      have HE : Hid (∀ W, Kept (· = w.heap.size) wr W → RdP T res w (.returned (.agg #[.string S', .string N', .int .i64 k', .slice A' n' c', .int .i64 ii', .int .i64 ev])) W) := Lib.hid (fun W hk => RdP.bad hres hne (kept_box HB.out (Nat.le_refl _) hk))
      unfold zero6 at HX
      clear hB hX hbx hres
      go_wp2_with fail
      refine bodyPost_ret (results_cell_row rfl _ _ _ tR _ (0, 0) _ rfl (six_set HX.out _ _ _ _ _ _).1 Tryz.underlying61 rfl (by kernel_rfl)) rfl ?_
      exact HE.out _ (six_set HX.out _ _ _ _ _ _).2

end Go.Proofs.YtcadnkanjlmfhaaGreatDoor.Ar
