/- DERIVED. Texts of this claim, joined: ArRAll, ArREv. -/
import Derived.Test.YtcadnkanjlmfhaaGreatDoorAzQ25
import Derived.Test.YtcadnkanjlmfhaaGreatDoorAzQ26
import Derived.Test.YtcadnkanjlmfhaaGreatDoorAzQ24
namespace Go.Proofs.YtcadnkanjlmfhaaGreatDoor.Ar
open Go.RowKit
open PathM WdM ArM
open Go.Proofs.YtcadnkanjlmfhaaGreatDoor.Wd
set_option linter.unusedVariables false

/-- A name, and the sign behind it. -/
def nmH : List Tok → Bs | t :: _ => rnm t | [] => []
def giftM (y t : Bs) : Rr → Rr
  | .error e => .error e
  | .ok (x, r) => .ok (.gift y t x, r)
theorem gv_last : ∀ s ∈ gvS, s.dropLast ++ [61] = s := by decide
theorem gift_done {T : List Tok} {M : Rr} {w W3 W4 W5 W6 : World} {s t : Bs} {kb : Nat} {nt : TypeId} {S2 N2 : ByteArray} {k2 k0 : Int} {A2 A0 : Option Addr} {n2 c2 n0 c0 : Nat} {i2 : Int}
    (hB : Below w.heap.size w W3) (hW : w.heap.size < W3.heap.size) (hs : s ∈ gvS) (ht : t.length ≤ 8192)
    (hP : RdP T M W3 (.returned (.agg #[.string S2, .string N2, .int .i64 k2, .slice A2 n2 c2, .int .i64 i2, .int .i64 0])) W4) (h5 : Below W4.heap.size W4 W5) (h6 : Kept (· = w.heap.size) W5 W6) (hkb : W5.heap.size ≤ kb)
    (hrow : W6.heap[kb]? = some (.cells #[.string (nm []), .string (nm t), .int .i64 k0, .slice A0 n0 c0, .string S2, .string N2, .int .i64 k2, .slice A2 n2 c2] nt (0, 0))) :
    RdP T (giftM s.dropLast t M) w (.returned (.agg #[.string (nm s), .string (nm []), .int .i64 0, .slice (some ⟨kb, 0, none⟩) 2 2, .int .i64 i2, .int .i64 0])) W6 := by
  obtain ⟨u, r, S', N', i', rfl, rfl, rfl, rfl, hr, hi, hn⟩ := hP.got
  have hP1 := hP.1
  have hs3 := hB.size
  have hs4 := hP1.size
  have hs5 := h5.size
  have hs6 := h6.size
  have hd : Below w.heap.size w W6 := kept_box ((hB.trans (hP1.mono hs3)).trans (h5.mono (by omega))) (Nat.le_refl _) h6
  have hn6 : NdR (fun b => w.heap.size ≤ b) W6 u S' N' k2 (.slice A2 n2 c2) := NdR.keep (fun b h1 h2 => ⟨by omega, by omega, (h6.block b (by omega) (by intro e; omega)).trans (h5.block b h2)⟩) u S' N' k2 _ hn
  refine ⟨hd, s, [], 0, _, i', rfl, ⟨hr, hi⟩, ⟨(gv_last s hs).symm, ⟨hs, ht⟩, kb, rfl, ⟨by omega, fin_at hrow⟩, ?_, ?_⟩⟩
  · exact ⟨[], t, k0, _, cell_blk hrow 0, cell_blk hrow 1, cell_blk hrow 2, cell_blk hrow 3, rfl, A0, n0, c0, rfl⟩
  · exact ⟨S', N', k2, _, cell_blk hrow 4, cell_blk hrow 5, cell_blk hrow 6, cell_blk hrow 7, hn6⟩
set_option maxRecDepth 100000 in
set_option maxHeartbeats 3200000 in
/-- A condition. -/
theorem all_cnd (T : List Tok) (B b off c i : Nat) (dp : Int) (hi : i ≤ T.length) (w : World) (h : RTk B w b off c T) (hB : B ≤ w.heap.size) (M : Rr)
    (hC : ∀ W, Below w.heap.size w W → Calls Tryz.prog 29 #[.slice (some ⟨b, off, none⟩) T.length c, .int .i64 (i : Int), .int .i64 dp] W (RdP T M W))
    (hg : nmH (T.drop i) = [] ∨ sgH (T.drop (i + 1)) ∉ gvS) :
    Calls Tryz.prog 16 #[.slice (some ⟨b, off, none⟩) T.length c, .int .i64 (i : Int), .int .i64 dp] w (RdP T M w) := by
  have HC := Lib.hid hC
  have hbw : b < w.heap.size := Nat.lt_of_lt_of_le h.lt hB
  have hlc := h.cap
  have hl8 := h.len
  have HB0 := Lib.hid (al w (.cells z6 tR))
  have HX0 := Lib.hid (heap_alloc_new w (.cells z6 tR))
  have HT : Hid (∀ W, Below w.heap.size w W → RTk B W b off c T) := Lib.hid (fun W hW => h.below hB hW)
  have HGV := Lib.hid rgives_any
  have fin : ∀ Wc, Below w.heap.size w Wc → Wc.heap[w.heap.size]? = some (.cells z6 tR (0, 0)) → Calls Tryz.prog 29 #[.slice (some ⟨b, off, none⟩) T.length c, .int .i64 (i : Int), .int .i64 dp] Wc (fun e W => ∃ S N k A n c i x, e = .returned (.agg #[.string S, .string N, .int .i64 k, .slice A n c, .int .i64 i, .int .i64 x]) ∧ W.heap[w.heap.size]? = some (.cells z6 tR (0, 0)) ∧ ∀ W6, Kept (· = w.heap.size) W W6 → RdP T M w e W6) := fun Wc hb hx => (hC Wc hb).mono (fun e W hq => by
    obtain ⟨S, N, k, A, n, c, i, x, rfl⟩ := hq.form
    exact ⟨S, N, k, A, n, c, i, x, rfl, (hq.1.block _ (fin_at hx)).trans hx, fun W6 h6 => hq.set hb ⟨Nat.le_refl _, fin_at hx⟩ h6⟩)
  have HF := Lib.hid fin
  clear fin hC HC
  by_cases hil : i + 1 < T.length
  · have hil2 : (i : Int) + 1 < (T.length : Int) := by omega
    have a1 := (h.cells i (by omega)).2.1
    have b0 := (h.cells (i + 1) hil).1
    rw [drop_at T i (by omega), drop_at T (i + 1) hil] at hg
    replace hg : rnm T[i] = [] ∨ rsg T[i + 1] ∉ gvS := hg
    by_cases hn0 : rnm T[i] = []
    · have e1 := emp_yes (b := nm (rnm T[i])) (by rw [nm_data]; exact hn0)
      have e2 : ((nm (rnm T[i])).toList != []) = false := by rw [str_ne, decide_eq_true hn0]; rfl
      generalize nm (rnm T[i]) = N at *
      clear hg hn0 h hil hi HT HGV b0
      generalize T.length = n at *
      go_enter Tryz.func16, Tryz.ntmps16
      go_wp2_with fail
      refine (HF.out _ HB0.out HX0.out).mono ?_
      rintro e W ⟨S9, N9, k9, A9, m9, q9, i9, x9, rfl, hx, hk⟩
      have HX := Lib.hid hx
      have HK := Lib.hid hk
      obtain ⟨d0, d1, d2, d3, d4, d5, p0, p1, p2, p3, p4, p5, hzw⟩ := box6 hx
      clear hx hk
      go_wp2_with fail
      refine bodyPost_ret (results_cell_row rfl _ _ _ tR _ (0, 0) _ rfl (six_set HX.out _ _ _ _ _ _).1 Tryz.underlying61 rfl (by kernel_rfl)) rfl ?_
      exact HK.out _ (six_set HX.out _ _ _ _ _ _).2
    · have hgv : rsg T[i + 1] ∉ gvS := hg.resolve_left hn0
      obtain ⟨e1, e3⟩ := emp_no (b := nm (rnm T[i])) (by rw [nm_data]; exact hn0)
      have e2 : ((nm (rnm T[i])).toList != []) = true := by rw [str_ne, decide_eq_false hn0]; rfl
      have HG : Hid (∀ W, Calls Tryz.prog 28 #[.string (nm (rsg T[i + 1]))] W fun e w' => e = .returned (.bool false) ∧ Below W.heap.size W w') := Lib.hid (fun W => by
        have := HGV.out (rsg T[i + 1]) W
        rw [decide_eq_false hgv] at this
        exact this)
      generalize nm (rnm T[i]) = N at *
      generalize nm (rsg T[i + 1]) = SG at *
      clear hg hn0 h hil hi HT HGV hgv
      generalize T.length = n at *
      go_enter Tryz.func16, Tryz.ntmps16
      go_wp2_with (go_at_call 28; refine (HG.out _).mono ?_; rintro e W1 ⟨rfl, hb1⟩; have HB1 := Lib.hid (HB0.out.trans (hb1.mono HB0.out.size)); have HX1 := Lib.hid ((hb1.block w.heap.size (fin_at HX0.out)).trans HX0.out); clear hb1)
      refine (HF.out _ HB1.out HX1.out).mono ?_
      rintro e W ⟨S9, N9, k9, A9, m9, q9, i9, x9, rfl, hx, hk⟩
      have HX := Lib.hid hx
      have HK := Lib.hid hk
      obtain ⟨d0, d1, d2, d3, d4, d5, p0, p1, p2, p3, p4, p5, hzw⟩ := box6 hx
      clear hx hk
      go_wp2_with fail
      refine bodyPost_ret (results_cell_row rfl _ _ _ tR _ (0, 0) _ rfl (six_set HX.out _ _ _ _ _ _).1 Tryz.underlying61 rfl (by kernel_rfl)) rfl ?_
      exact HK.out _ (six_set HX.out _ _ _ _ _ _).2
  · have hil2 : ¬ (i : Int) + 1 < (T.length : Int) := by omega
    clear hg h hil HT HGV
    generalize T.length = n at *
    go_enter Tryz.func16, Tryz.ntmps16
    go_wp2_with fail
    refine (HF.out _ HB0.out HX0.out).mono ?_
    rintro e W ⟨S9, N9, k9, A9, m9, q9, i9, x9, rfl, hx, hk⟩
    have HX := Lib.hid hx
    have HK := Lib.hid hk
    obtain ⟨d0, d1, d2, d3, d4, d5, p0, p1, p2, p3, p4, p5, hzw⟩ := box6 hx
    clear hx hk
    go_wp2_with fail
    refine bodyPost_ret (results_cell_row rfl _ _ _ tR _ (0, 0) _ rfl (six_set HX.out _ _ _ _ _ _).1 Tryz.underlying61 rfl (by kernel_rfl)) rfl ?_
    exact HK.out _ (six_set HX.out _ _ _ _ _ _).2
set_option maxRecDepth 100000 in
set_option maxHeartbeats 3200000 in
/-- A name that is given something. -/
theorem all_gift (T : List Tok) (B b off c i : Nat) (dp : Int) (hil : i + 1 < T.length) (w : World) (h : RTk B w b off c T) (hB : B ≤ w.heap.size) (M : Rr) (s t : Bs) (hT : T[i] = .nam t) (hT1 : T[i + 1] = .sg s) (ht : t ≠ [] ∧ t.length ≤ 8192) (hs : s ∈ gvS)
    (hC : ∀ W, Below w.heap.size w W → Calls Tryz.prog 16 #[.slice (some ⟨b, off, none⟩) T.length c, .int .i64 ((i : Int) + 2), .int .i64 dp] W (RdP T M W)) :
    Calls Tryz.prog 16 #[.slice (some ⟨b, off, none⟩) T.length c, .int .i64 (i : Int), .int .i64 dp] w (RdP T (giftM s.dropLast t M) w) := by
  have HTC : Hid (∀ W, Below w.heap.size w W → (W.cell? ⟨b, off + i * 3, none⟩ = some (.string (nm [])) ∧ W.cell? ⟨b, off + i * 3 + 1, none⟩ = some (.string (nm t)) ∧ W.cell? ⟨b, off + i * 3 + 2, none⟩ = some (.int .i64 0)) ∧ W.cell? ⟨b, off + (i + 1) * 3, none⟩ = some (.string (nm s)) ∧ W.cell? ⟨b, off + (i + 1) * 3 + 1, none⟩ = some (.string (nm [])) ∧ W.cell? ⟨b, off + (i + 1) * 3 + 2, none⟩ = some (.int .i64 0)) := Lib.hid (fun W hW => by
    have h1 := (h.below hB hW).cells i (by omega)
    have h2 := (h.below hB hW).cells (i + 1) hil
    rw [hT] at h1
    rw [hT1] at h2
    exact ⟨h1, h2⟩)
  have HC := Lib.hid hC
  obtain ⟨⟨a0, a1, a2⟩, b0, b1, b2⟩ := HTC.out w (Below.refl _ _)
  have hbw : b < w.heap.size := Nat.lt_of_lt_of_le h.lt hB
  have hlc := h.cap
  have hl8 := h.len
  have hil2 : (i : Int) + 1 < (T.length : Int) := by omega
  have HB0 := Lib.hid (al w (.cells z6 tR))
  have HX0 := Lib.hid (heap_alloc_new w (.cells z6 tR))
  obtain ⟨e1, e3⟩ := emp_no (b := nm t) (by rw [nm_data]; exact ht.1)
  have e2 : ((nm t).toList != []) = true := by rw [str_ne, decide_eq_false ht.1]; rfl
  have HG : Hid (∀ W, Calls Tryz.prog 28 #[.string (nm s)] W fun e w' => e = .returned (.bool true) ∧ Below W.heap.size W w') := Lib.hid (fun W => by
    have := rgives_any s W
    rw [decide_eq_true hs] at this
    exact this)
  have HFB : Hid (∀ W4 W x S N k A n c i, x ≠ 0 → M = .error x → Below w.heap.size w W4 → Kept (· = w.heap.size) W4 W → RdP T (giftM s.dropLast t M) w (.returned (.agg #[.string S, .string N, .int .i64 k, .slice A n c, .int .i64 i, .int .i64 x])) W) := Lib.hid (fun W4 W x S N k A n c i hx hM hB hk => RdP.badv (by rw [hM]; rfl) hx hB hk)
  have HD := Lib.hid (@gift_done T M w · · · · s t · · · · · · · · · · · · · · · hs ht.2 · · · · ·)
  clear hC h hT hT1 ht hs hil
  generalize giftM s.dropLast t M = m at *
  generalize T.length = n at *
  generalize nm s = SG at *
  generalize nm t = TG at *
  generalize nm [] = E0 at *
  go_enter Tryz.func16, Tryz.ntmps16
  go_wp2_with (go_at_call 28; refine (HG.out _).mono ?_; rintro e W1 ⟨rfl, hb1⟩; have HB3 := Lib.hid (HB0.out.trans (hb1.mono HB0.out.size)); have HX3 := Lib.hid ((hb1.block w.heap.size (fin_at HX0.out)).trans HX0.out); clear hb1)
  have hz3 := fin_at HX3.out
  clear a0 a1 a2 b0 b1 b2
  refine (HC.out _ HB3.out).mono ?_
  intro e W4 hq
  obtain ⟨S9, N9, k9, A9, m9, q9, i9, x9, rfl⟩ := hq.form
  have HQ := Lib.hid hq
  have HX4 := Lib.hid ((hq.1.block w.heap.size hz3).trans HX3.out)
  have HB4 := Lib.hid (HB3.out.trans (hq.1.mono HB3.out.size))
  clear hq HC HB0 HX0
  by_cases hx9 : x9 = 0
  · subst hx9
    have ht5 := fun o => HTC.out _ (HB4.out.alloc HB4.out.size o)
    have hb5 := fun o => heap_alloc_new W4 o
    have h45 := fun o => al W4 o
    have hbz4 : b < W4.heap.size := Nat.lt_of_lt_of_le hbw HB4.out.size
    have hx5 := fun o => (heap_alloc_old W4 o (fin_at HX4.out)).trans HX4.out
    have hw4 := fin_at HX4.out
    go_wp2_with fail
    refine wp_gen (fun W => W.heap[w.heap.size]? = some (.cells z6 tR (0, 0)) ∧ W.heap[W4.heap.size]? = some (.cells #[.string S9, .string N9, .int .i64 k9, .slice A9 m9 q9, .int .i64 i9, .int .i64 0] tR (0, 0)) ∧ ((W.cell? ⟨b, off + i * 3, none⟩ = some (.string E0) ∧ W.cell? ⟨b, off + i * 3 + 1, none⟩ = some (.string TG) ∧ W.cell? ⟨b, off + i * 3 + 2, none⟩ = some (.int .i64 0)) ∧ W.cell? ⟨b, off + (i + 1) * 3, none⟩ = some (.string SG) ∧ W.cell? ⟨b, off + (i + 1) * 3 + 1, none⟩ = some (.string E0) ∧ W.cell? ⟨b, off + (i + 1) * 3 + 2, none⟩ = some (.int .i64 0)) ∧ Below W4.heap.size W4 W ∧ W4.heap.size < W.heap.size) ⟨hx5 _, hb5 _, ht5 _, h45 _, by simp⟩ ?_
    rintro W5 ⟨hx5, hb5, ⟨⟨t0, t1, t2⟩, u0, u1, u2⟩, h45, h55⟩
    have HX5 := Lib.hid hx5
    have H45 := Lib.hid h45
    obtain ⟨c0, c1, c2, c3, c4, c5, p0, p1, p2, p3, p4, p5, hz5⟩ := box6 hx5
    obtain ⟨d0, d1, d2, d3, d4, d5, -, -, -, -, -, -, hy5⟩ := box6 hb5
    have hne : ¬ w.heap.size = W4.heap.size := by omega
    have hbz5 : b < W5.heap.size := by omega
    clear hx5 hb5 h45
    generalize W4.heap.size = bb at hne hy5 h55 d0 d1 d2 d3 d4 d5 hbz4 hw4 ⊢
    have hs6 := six_row HX5.out (.string SG) (.string E0) (.int .i64 0) (.slice (some ⟨W5.heap.size, 0, none⟩) 2 2) (.int .i64 i9) (.int .i64 0) #[.string E0, .string TG, .int .i64 0, .slice none 0 0, .string S9, .string N9, .int .i64 k9, .slice A9 m9 q9] 59
    have HS6 := Lib.hid hs6
    clear hs6
    go_region
    refine gen_at (fun W => W.heap[w.heap.size]? = some (.cells #[.string SG, .string E0, .int .i64 0, .slice (some ⟨W5.heap.size, 0, none⟩) 2 2, .int .i64 i9, .int .i64 0] tR (0, 0)) ∧ RdP T m w (.returned (.agg #[.string SG, .string E0, .int .i64 0, .slice (some ⟨W5.heap.size, 0, none⟩) 2 2, .int .i64 i9, .int .i64 0])) W) ⟨HS6.out.1, HD.out _ _ _ _ _ 59 _ _ _ _ _ _ _ _ _ _ _ HB3.out hz3 HQ.out H45.out HS6.out.2.1 (Nat.le_refl W5.heap.size) HS6.out.2.2⟩ ?_
    rintro W6 ⟨hx6, hr6⟩
    have HR6 := Lib.hid hr6
    clear hr6 HD HFB HS6 H45 HX5
    go_wp2_with fail
    refine bodyPost_ret (results_cell_row rfl _ _ _ tR _ (0, 0) _ rfl hx6 Tryz.underlying61 rfl (by kernel_rfl)) rfl ?_
    exact HR6.out
  · have HY4 := Lib.hid HX4.out
    obtain ⟨d0, d1, d2, d3, d4, d5, p0, p1, p2, p3, p4, p5, hzw⟩ := box6 HX4.out
    have hME := HQ.out.fell hx9
    go_wp2_with fail
    refine bodyPost_ret (results_cell_row rfl _ _ _ tR _ (0, 0) _ rfl (six_then HY4.out _ _ _ _ _ _ _).1 Tryz.underlying61 rfl (by kernel_rfl)) rfl ?_
    exact HFB.out _ _ _ _ _ _ _ _ _ _ hx9 hME HB4.out (six_then HY4.out _ _ _ _ _ _ _).2

theorem allD_gift (d : Rd) (dp : Nat) (t s : Bs) (r : List Tok) (h1 : s ∈ signsA) (h2 : s ∈ gvS) : allD d dp (.nam t :: .sg s :: r) = giftM s.dropLast t (d.all dp r) := by
  unfold allD
  dsimp only
  rw [(gv_sign s h1).2 h2]
  dsimp only
  cases d.all dp r <;> rfl
theorem allD_cond (d : Rd) (dp : Nat) (l : List Tok) (hok : ∀ t ∈ l, RkD t) (h : nmH l = [] ∨ sgH (l.drop 1) ∉ gvS) : allD d dp l = condD d dp l := by
  unfold allD
  split
  · rename_i t s r
    have h1 : s ∈ signsA := hok (.sg s) (by simp)
    have h2 : t ≠ [] := (hok (.nam t) (by simp)).1
    have h3 : s ∉ gvS := h.resolve_left h2
    have h4 := (gv_sign s h1).1
    rw [decide_eq_false h3] at h4
    cases hg : givesOf s with
    | none => rfl
    | some b => rw [hg] at h4; cases h4
  · rfl
theorem rall_any (d : Rd) (B b off c : Nat) (T : List Tok) (m dp : Nat) (hC : RO 29 B b off c T (m + 1) #[.int .i64 (dp : Int)] (condD d dp)) (hA : RO 16 B b off c T m #[.int .i64 (dp : Int)] (d.all dp)) :
    RO 16 B b off c T (m + 1) #[.int .i64 (dp : Int)] (allD d dp) := by
  intro i x w hx hm hi hB h
  subst hx
  show Calls _ _ #[.slice (some ⟨b, off, none⟩) T.length c, .int .i64 (i : Int), .int .i64 (dp : Int)] _ _
  have cnd : (nmH (T.drop i) = [] ∨ sgH (T.drop (i + 1)) ∉ gvS) → Calls Tryz.prog 16 #[.slice (some ⟨b, off, none⟩) T.length c, .int .i64 (i : Int), .int .i64 (dp : Int)] w (RdP T (allD d dp (T.drop i)) w) := by
    intro hg
    rw [allD_cond d dp _ (fun t ht => h.ok t (List.mem_of_mem_drop ht)) (by rw [List.drop_drop]; exact hg)]
    exact all_cnd T B b off c i dp hi w h hB _ (fun W hW => hC i _ W rfl hm hi (Nat.le_trans hB hW.size) (h.below hB hW)) hg
  by_cases hil : i + 1 < T.length
  · cases hT : T[i] with
    | num a k => exact cnd (.inl (by rw [drop_at T i (by omega), hT]; rfl))
    | sg s => exact cnd (.inl (by rw [drop_at T i (by omega), hT]; rfl))
    | nam t =>
      by_cases hs : sgH (T.drop (i + 1)) ∈ gvS
      · cases hT1 : T[i + 1] with
        | num a k => rw [drop_at T (i + 1) hil, hT1] at hs; exact absurd hs (by show ([] : Bs) ∉ gvS; decide)
        | nam a => rw [drop_at T (i + 1) hil, hT1] at hs; exact absurd hs (by show ([] : Bs) ∉ gvS; decide)
        | sg s =>
          have h0 := h.ok _ (List.getElem_mem (show i < T.length by omega))
          have h1 := h.ok _ (List.getElem_mem hil)
          rw [drop_at T (i + 1) hil, hT1] at hs
          rw [hT] at h0
          rw [hT1] at h1
          replace hs : s ∈ gvS := hs
          rw [drop_at T i (by omega), hT, drop_at T (i + 1) hil, hT1, allD_gift d dp t s _ h1 hs]
          exact all_gift T B b off c i dp hil w h hB _ s t hT hT1 h0 hs (fun W hW => hA (i + 2) _ W (by push_cast; rfl) (by omega) (by omega) (Nat.le_trans hB hW.size) (h.below hB hW))
      · exact cnd (.inr hs)
  · exact cnd (.inr (by rw [drop_no T (i + 1) hil]; show ([] : Bs) ∉ gvS; decide))
theorem rlev_all (B b off c : Nat) (T : List Tok) (m : Nat) (nest : Int) (lead : List Tok → Rr) (hU : RO 63 B b off c T m #[.int .i64 nest] lead) (hs : Lss lead) : ∀ (j q : Nat), q + j = 10 → RO 46 B b off c T m #[.int .i64 (q : Int), .int .i64 nest] (pairsK lead j)
  | 0, q, h => by
    have e : q = 10 := by omega
    subst e
    exact rlev_top B b off c T m nest lead hU
  | j + 1, q, h => by
    have ih := rlev_all B b off c T m nest lead hU hs j (q + 1) (by omega)
    rw [show (((q + 1 : Nat)) : Int) = (q : Int) + 1 by push_cast; rfl] at ih
    exact rlev_some B b off c T m nest q j (by omega) lead ih (pairsK_less hs j)
theorem cast1 (n : Nat) : (((n + 1 : Nat)) : Int) = (n : Int) + 1 := by push_cast; rfl
/-- The whole grammar. -/
theorem rfam (B b off c : Nat) (T : List Tok) : ∀ m, (∀ dp : Nat, dp ≤ 65 → RO 16 B b off c T m #[.int .i64 (dp : Int)] ((rdD m).all dp)) ∧ (∀ dp : Nat, dp ≤ 65 → RO 29 B b off c T m #[.int .i64 (dp : Int)] ((rdD m).cond dp)) ∧ (∀ dp : Nat, dp ≤ 65 → RO 63 B b off c T m #[.int .i64 (dp : Int)] ((rdD m).lead dp))
  | 0 => ⟨(fun dp _ i x w _ h => absurd h (by omega)), (fun dp _ i x w _ h => absurd h (by omega)), (fun dp _ i x w _ h => absurd h (by omega))⟩
  | m + 1 => by
    obtain ⟨iA, iC, iU⟩ := rfam B b off c T m
    have hU : ∀ dp : Nat, dp ≤ 65 → RO 63 B b off c T (m + 1) #[.int .i64 (dp : Int)] (leadD (rdD m) dp) := fun dp hd => unary_any (rdD m) B b off c T m dp hd
      (fun h64 => by have := iU (dp + 1) (by omega); rw [cast1] at this; exact this)
      (fun h64 => by have := iA (dp + 1) (by omega); rw [cast1] at this; exact this)
    have hC : ∀ dp : Nat, dp ≤ 65 → RO 29 B b off c T (m + 1) #[.int .i64 (dp : Int)] (condD (rdD m) dp) := fun dp hd =>
      rcond_any (rdD m) B b off c T m dp hd (rlev_all B b off c T (m + 1) dp _ (hU dp hd) (leadD_less (rdD_less m) dp) 10 0 rfl) (iA dp hd) (iC dp hd) (pairsK_less (leadD_less (rdD_less m) dp) 10) ((rdD_less m dp).1)
    exact ⟨fun dp hd => rall_any (rdD m) B b off c T m dp (hC dp hd) (iA dp hd), hC, hU⟩

end Go.Proofs.YtcadnkanjlmfhaaGreatDoor.Ar
namespace Go.Proofs.YtcadnkanjlmfhaaGreatDoor.Ar
open Go.RowKit
open PathM WdM ArM
open Go.Proofs.YtcadnkanjlmfhaaGreatDoor.Wd
set_option linter.unusedVariables false

/-- All of Reckon. -/
theorem rreckon_any : ∀ t : Tm, TmOk t → RkR t
  | .const n, _ => rk_const n
  | .named t, _ => rk_named t
  | .led s t, h => rk_led s t h (rreckon_any t h)
  | .pair s l r, h => rk_pair s l r (rreckon_any l h.1) (rreckon_any r h.2)
  | .gift y n t, h => rk_gift y n t h.2 (rreckon_any t h.2)
  | .choice a b c, h => rk_choice a b c (rreckon_any a h.1) (rreckon_any b h.2.1) (rreckon_any c h.2.2)

end Go.Proofs.YtcadnkanjlmfhaaGreatDoor.Ar
