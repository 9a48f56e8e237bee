/- DERIVED. Texts of this claim, joined: ArRUn2, ArRUn3. -/
import Derived.Test.YtcadnkanjlmfhaaGreatDoorAzQ20
import Derived.Test.YtcadnkanjlmfhaaGreatDoorAzQ11
namespace Go.Proofs.YtcadnkanjlmfhaaGreatDoor.Ar
open Go.RowKit
open PathM WdM ArM
open Go.Proofs.YtcadnkanjlmfhaaGreatDoor.Wd
set_option linter.unusedVariables false

theorem RdP.fell {T : List Tok} {m : Rr} {W3 W4 : World} {S2 N2 : ByteArray} {k2 : Int} {A2 : Option Addr} {n2 c2 : Nat} {i2 x : Int}
    (hP : RdP T m W3 (.returned (.agg #[.string S2, .string N2, .int .i64 k2, .slice A2 n2 c2, .int .i64 i2, .int .i64 x])) W4) (hx : x ≠ 0) : m = .error x := by
  obtain ⟨_, hP2⟩ := hP
  cases m with
  | error er =>
    obtain ⟨_, _, _, _, _, _, _, he, hne⟩ := hP2
    unfold readV at he
    simp only [Ending.returned.injEq, Value.agg.injEq, Array.mk.injEq, List.cons.injEq, Value.int.injEq, Value.string.injEq, and_true, true_and] at he
    rw [he.2.2.2.2.2]
  | ok p =>
    obtain ⟨_, _, _, _, _, he, _⟩ := hP2
    unfold readV at he
    simp only [Ending.returned.injEq, Value.agg.injEq, Array.mk.injEq, List.cons.injEq, Value.int.injEq, Value.string.injEq, and_true, true_and] at he
    exact absurd he.2.2.2.2.2 hx
theorem RdP.got {T : List Tok} {m : Rr} {W3 W4 : World} {S2 N2 : ByteArray} {k2 : Int} {A2 : Option Addr} {n2 c2 : Nat} {i2 : Int}
    (hP : RdP T m W3 (.returned (.agg #[.string S2, .string N2, .int .i64 k2, .slice A2 n2 c2, .int .i64 i2, .int .i64 0])) W4) :
    ∃ t r S' N', ∃ i' : Nat, m = .ok (t, r) ∧ S2 = nm S' ∧ N2 = nm N' ∧ i2 = (i' : Int) ∧ T.drop i' = r ∧ i' ≤ T.length ∧ NdR (fun b => W3.heap.size ≤ b) W4 t S' N' k2 (.slice A2 n2 c2) := by
  obtain ⟨_, hP2⟩ := hP
  cases m with
  | error er =>
    obtain ⟨_, _, _, _, _, _, _, he, hne⟩ := hP2
    unfold readV at he
    simp only [Ending.returned.injEq, Value.agg.injEq, Array.mk.injEq, List.cons.injEq, Value.int.injEq, Value.string.injEq, and_true, true_and] at he
    exact absurd he.2.2.2.2.2.symm hne
  | ok p =>
    obtain ⟨t, r⟩ := p
    obtain ⟨S', N', k', K', i', he, ⟨hr, hi⟩, hn⟩ := hP2
    unfold readV at he
    simp only [Ending.returned.injEq, Value.agg.injEq, Array.mk.injEq, List.cons.injEq, Value.int.injEq, Value.string.injEq, and_true, true_and] at he
    obtain ⟨rfl, rfl, rfl, rfl, rfl⟩ := he
    exact ⟨t, r, S', N', i', rfl, rfl, rfl, rfl, hr, hi, hn⟩
/-- A box is written, a row is made, and an order was drawn. -/
theorem six_row {W : World} {b : Nat} {t : TypeId} {x0 x1 x2 x3 x4 x5 : Value} (h : W.heap[b]? = some (.cells #[x0, x1, x2, x3, x4, x5] t (0, 0))) (y0 y1 y2 y3 y4 y5 : Value) (cs : Array Value) (nt : TypeId) :
    ((((((((W.setCell ⟨b, 0, none⟩ y0).setCell ⟨b, 1, none⟩ y1).setCell ⟨b, 2, none⟩ y2).setCell ⟨b, 3, none⟩ y3).setCell ⟨b, 4, none⟩ y4).setCell ⟨b, 5, none⟩ y5).alloc (.cells cs nt)).drew).heap[b]? = some (.cells #[y0, y1, y2, y3, y4, y5] t (0, 0)) ∧
    Kept (· = b) W ((((((((W.setCell ⟨b, 0, none⟩ y0).setCell ⟨b, 1, none⟩ y1).setCell ⟨b, 2, none⟩ y2).setCell ⟨b, 3, none⟩ y3).setCell ⟨b, 4, none⟩ y4).setCell ⟨b, 5, none⟩ y5).alloc (.cells cs nt)).drew) ∧
    ((((((((W.setCell ⟨b, 0, none⟩ y0).setCell ⟨b, 1, none⟩ y1).setCell ⟨b, 2, none⟩ y2).setCell ⟨b, 3, none⟩ y3).setCell ⟨b, 4, none⟩ y4).setCell ⟨b, 5, none⟩ y5).alloc (.cells cs nt)).drew).heap[W.heap.size]? = some (.cells cs nt (0, 0)) := by
  obtain ⟨h1, h2⟩ := six_then h y0 y1 y2 y3 y4 y5 (.cells cs nt)
  refine ⟨h1, h2.trans (kept_drew _), ?_⟩
  have := heap_alloc_new ((((((W.setCell ⟨b, 0, none⟩ y0).setCell ⟨b, 1, none⟩ y1).setCell ⟨b, 2, none⟩ y2).setCell ⟨b, 3, none⟩ y3).setCell ⟨b, 4, none⟩ y4).setCell ⟨b, 5, none⟩ y5) (.cells cs nt)
  simp only [World.size_setCell] at this
  exact this
def ledM (s : Bs) : Rr → Rr
  | .error e => .error e
  | .ok (t, r) => .ok (.led s t, r)
theorem led_done {T : List Tok} {M : Rr} {w W3 W4 W5 W6 : World} {s : Bs} {kb : Nat} {nt : TypeId} {S2 N2 : ByteArray} {k2 : Int} {A2 : Option Addr} {n2 c2 : Nat} {i2 : Int}
    (hB : Below w.heap.size w W3) (hW : w.heap.size < W3.heap.size) (hl : leadsOf s = true)
    (hP : RdP T M W3 (.returned (.agg #[.string S2, .string N2, .int .i64 k2, .slice A2 n2 c2, .int .i64 i2, .int .i64 0])) W4) (h5 : Below W4.heap.size W4 W5) (h6 : Kept (· = w.heap.size) W5 W6) (hkb : W5.heap.size ≤ kb)
    (hrow : W6.heap[kb]? = some (.cells #[.string S2, .string N2, .int .i64 k2, .slice A2 n2 c2] nt (0, 0))) :
    RdP T (ledM s M) w (.returned (.agg #[.string (nm s), .string (nm []), .int .i64 0, .slice (some ⟨kb, 0, none⟩) 1 1, .int .i64 i2, .int .i64 0])) W6 := by
  obtain ⟨t, r, S', N', i', rfl, rfl, rfl, rfl, hr, hi, hn⟩ := hP.got
  have hP1 := hP.1
  have hs3 := hB.size
  have hs4 := hP1.size
  have hs5 := h5.size
  have hs6 := h6.size
  have hd : Below w.heap.size w W6 := kept_box ((hB.trans (hP1.mono hs3)).trans (h5.mono (by omega))) (Nat.le_refl _) h6
  have hn6 : NdR (fun b => w.heap.size ≤ b) W6 t S' N' k2 (.slice A2 n2 c2) := NdR.keep (fun b h1 h2 => ⟨by omega, by omega, (h6.block b (by omega) (by intro e; omega)).trans (h5.block b h2)⟩) t S' N' k2 _ hn
  refine ⟨hd, s, [], 0, _, i', rfl, ⟨hr, hi⟩, ⟨rfl, hl, kb, rfl, ⟨by omega, fin_at hrow⟩, ?_⟩⟩
  exact ⟨S', N', k2, _, cell_blk hrow 0, cell_blk hrow 1, cell_blk hrow 2, cell_blk hrow 3, hn6⟩
set_option maxRecDepth 100000 in
set_option maxHeartbeats 3200000 in
/-- Behind a sign that leads. -/
theorem un_led (T : List Tok) (B b off c i : Nat) (dp : Int) (hd0 : 0 ≤ dp) (hd : dp ≤ 64) (hi : i < T.length) (w : World) (h : RTk B w b off c T) (hB : B ≤ w.heap.size) (s : Bs) (hT : T[i] = .sg s) (h0 : s ≠ []) (h1 : leadsOf s = true) (M : Rr)
    (hC : ∀ W, Below w.heap.size w W → Calls Tryz.prog 63 #[.slice (some ⟨b, off, none⟩) T.length c, .int .i64 ((i : Int) + 1), .int .i64 (dp + 1)] W (RdP T M W)) :
    Calls Tryz.prog 63 #[.slice (some ⟨b, off, none⟩) T.length c, .int .i64 (i : Int), .int .i64 dp] w (RdP T (ledM s M) w) := by
  have HTC : Hid (∀ W, Below w.heap.size w W → W.cell? ⟨b, off + i * 3, none⟩ = some (.string (nm s)) ∧ W.cell? ⟨b, off + i * 3 + 1, none⟩ = some (.string (nm [])) ∧ W.cell? ⟨b, off + i * 3 + 2, none⟩ = some (.int .i64 0)) := Lib.hid (fun W hW => by
    have := (h.below hB hW).cells i hi
    rw [hT] at this
    exact this)
  have HC := Lib.hid hC
  have a0 := (HTC.out w (Below.refl _ _)).1
  have hbw : b < w.heap.size := Nat.lt_of_lt_of_le h.lt hB
  have hlc := h.cap
  have hl8 := h.len
  have hi2 : (i : Int) < (T.length : Int) := by omega
  have HO := Lib.hid (lead_one s true h1 w (.cells zero6 tR))
  have HB2 := Lib.hid (fun o2 => two_below w (.cells zero6 tR) o2)
  have HX2 := Lib.hid (fun o2 => two_old w (.cells zero6 tR) o2)
  unfold zero6 at HO HB2 HX2
  obtain ⟨e1, e2⟩ := emp_no (b := nm s) (by rw [nm_data]; exact h0)
  have HFB : Hid (∀ W4 W x S N k A n c i, x ≠ 0 → M = .error x → Below w.heap.size w W4 → Kept (· = w.heap.size) W4 W → RdP T (ledM s M) w (.returned (.agg #[.string S, .string N, .int .i64 k, .slice A n c, .int .i64 i, .int .i64 x])) W) := Lib.hid (fun W4 W x S N k A n c i hx hM hB hk => RdP.badv (by rw [hM]; rfl) hx hB hk)
  have HD := Lib.hid (@led_done T M w · · · · s · · · · · · · · · · · h1 · · · · ·)
  clear hC h hT h0 h1 hi
  generalize ledM s M = m at *
  generalize T.length = n at *
  generalize nm s = SG at *
  generalize nm [] = E0 at *
  go_enter Tryz.func63, Tryz.ntmps63
  go_wp2_with (go_at_call 45; refine HO.out.mono ?_; rintro e W2 ⟨rfl, rfl⟩)
  refine calls_gen (fun W => Below w.heap.size w W ∧ W.heap[w.heap.size]? = some (.cells #[.string ByteArray.empty, .string ByteArray.empty, .int .i64 0, .slice none 0 0, .int .i64 0, .int .i64 0] tR (0, 0))) ⟨HB2.out _, HX2.out _⟩ ?_
  rintro W3 ⟨hb3, hx3⟩
  have HB3 := Lib.hid hb3
  have HX3 := Lib.hid hx3
  have hz3 := fin_at hx3
  clear hb3 hx3 HO HB2 HX2 a0
  refine (HC.out _ HB3.out).mono ?_
  intro e W4 hq
  obtain ⟨S9, N9, k9, A9, m9, q9, i9, x9, rfl⟩ := hq.form
  have HQ := Lib.hid hq
  have HX4 := Lib.hid ((hq.1.block w.heap.size hz3).trans HX3.out)
  have HB4 := Lib.hid (HB3.out.trans (hq.1.mono HB3.out.size))
  clear hq HC
  by_cases hx9 : x9 = 0
  · subst hx9
    have ht5 := fun o => HTC.out _ (HB4.out.alloc HB4.out.size o)
    have hb5 := fun o => heap_alloc_new W4 o
    have h45 := fun o => al W4 o
    have hbz4 : b < W4.heap.size := Nat.lt_of_lt_of_le hbw HB4.out.size
    have hx5 := fun o => (heap_alloc_old W4 o (fin_at HX4.out)).trans HX4.out
    have hw4 := fin_at HX4.out
    go_wp2_with fail
    refine wp_gen (fun W => W.heap[w.heap.size]? = some (.cells #[.string ByteArray.empty, .string ByteArray.empty, .int .i64 0, .slice none 0 0, .int .i64 0, .int .i64 0] tR (0, 0)) ∧ W.heap[W4.heap.size]? = some (.cells #[.string S9, .string N9, .int .i64 k9, .slice A9 m9 q9, .int .i64 i9, .int .i64 0] tR (0, 0)) ∧ (W.cell? ⟨b, off + i * 3, none⟩ = some (.string SG) ∧ W.cell? ⟨b, off + i * 3 + 1, none⟩ = some (.string E0) ∧ W.cell? ⟨b, off + i * 3 + 2, none⟩ = some (.int .i64 0)) ∧ Below W4.heap.size W4 W ∧ W4.heap.size < W.heap.size) ⟨hx5 _, hb5 _, ht5 _, h45 _, by simp⟩ ?_
    rintro W5 ⟨hx5, hb5, ⟨t0, t1, t2⟩, h45, h55⟩
    have HX5 := Lib.hid hx5
    have H45 := Lib.hid h45
    obtain ⟨c0, c1, c2, c3, c4, c5, p0, p1, p2, p3, p4, p5, hz5⟩ := box6 hx5
    obtain ⟨d0, d1, d2, d3, d4, d5, -, -, -, -, -, -, hy5⟩ := box6 hb5
    have hne : ¬ w.heap.size = W4.heap.size := by omega
    have hbz5 : b < W5.heap.size := by omega
    clear hx5 hb5 h45 
    generalize W4.heap.size = bb at hne hy5 h55 d0 d1 d2 d3 d4 d5 hbz4 hw4 ⊢
    have hs6 := six_row HX5.out (.string SG) (.string E0) (.int .i64 0) (.slice (some ⟨W5.heap.size, 0, none⟩) 1 1) (.int .i64 i9) (.int .i64 0) #[.string S9, .string N9, .int .i64 k9, .slice A9 m9 q9] 59
    have HS6 := Lib.hid hs6
    clear hs6
    go_region
    refine gen_at (fun W => W.heap[w.heap.size]? = some (.cells #[.string SG, .string E0, .int .i64 0, .slice (some ⟨W5.heap.size, 0, none⟩) 1 1, .int .i64 i9, .int .i64 0] tR (0, 0)) ∧ RdP T m w (.returned (.agg #[.string SG, .string E0, .int .i64 0, .slice (some ⟨W5.heap.size, 0, none⟩) 1 1, .int .i64 i9, .int .i64 0])) W) ⟨HS6.out.1, HD.out _ _ _ _ _ 59 _ _ _ _ _ _ _ HB3.out hz3 HQ.out H45.out HS6.out.2.1 (Nat.le_refl W5.heap.size) HS6.out.2.2⟩ ?_
    rintro W6 ⟨hx6, hr6⟩
    have HR6 := Lib.hid hr6
    clear hr6 HD HFB HS6 H45 HX5
    go_wp2_with fail
    refine bodyPost_ret (results_cell_row rfl _ _ _ tR _ (0, 0) _ rfl hx6 Tryz.underlying61 rfl (by kernel_rfl)) rfl ?_
    exact HR6.out
  · have HY4 := Lib.hid HX4.out
    obtain ⟨d0, d1, d2, d3, d4, d5, p0, p1, p2, p3, p4, p5, hzw⟩ := box6 HX4.out
    have hME := HQ.out.fell hx9
    go_wp2_with fail
    refine bodyPost_ret (results_cell_row rfl _ _ _ tR _ (0, 0) _ rfl (six_then HY4.out _ _ _ _ _ _ _).1 Tryz.underlying61 rfl (by kernel_rfl)) rfl ?_
    exact HFB.out _ _ _ _ _ _ _ _ _ _ hx9 hME HB4.out (six_then HY4.out _ _ _ _ _ _ _).2

end Go.Proofs.YtcadnkanjlmfhaaGreatDoor.Ar
namespace Go.Proofs.YtcadnkanjlmfhaaGreatDoor.Ar
open Go.RowKit
open PathM WdM ArM
open Go.Proofs.YtcadnkanjlmfhaaGreatDoor.Wd
set_option linter.unusedVariables false

theorem pass_on {w W3 W4 W6 : World} {t : Tm} {S N : Bs} {k : Int} {K : Value} (hB : Below w.heap.size w W3) (hW : w.heap.size < W3.heap.size) (hP1 : Below W3.heap.size W3 W4) (hn : NdR (fun b => W3.heap.size ≤ b) W4 t S N k K) (h6 : Kept (· = w.heap.size) W4 W6) :
    Below w.heap.size w W6 ∧ NdR (fun b => w.heap.size ≤ b) W6 t S N k K := by
  have hs3 := hB.size
  have hs4 := hP1.size
  have hs6 := h6.size
  exact ⟨kept_box (hB.trans (hP1.mono hs3)) (Nat.le_refl _) h6, NdR.keep (fun b h1 h2 => ⟨by omega, by omega, h6.block b (by omega) (by intro e; omega)⟩) t S N k _ hn⟩
def parM : Rr → Rr
  | .error e => .error e
  | .ok (t, r) => if sgH r = [41] then .ok (t, r.drop 1) else .error 61
set_option maxRecDepth 100000 in
set_option maxHeartbeats 3200000 in
/-- In parentheses. -/
theorem un_par (T : List Tok) (B b off c i : Nat) (dp : Int) (hd0 : 0 ≤ dp) (hd : dp ≤ 64) (hi : i < T.length) (w : World) (h : RTk B w b off c T) (hB : B ≤ w.heap.size) (hT : T[i] = .sg [40]) (M : Rr)
    (hC : ∀ W, Below w.heap.size w W → Calls Tryz.prog 16 #[.slice (some ⟨b, off, none⟩) T.length c, .int .i64 ((i : Int) + 1), .int .i64 (dp + 1)] W (RdP T M W)) :
    Calls Tryz.prog 63 #[.slice (some ⟨b, off, none⟩) T.length c, .int .i64 (i : Int), .int .i64 dp] w (RdP T (parM M) w) := by
  have a0 := (h.cells i hi).1
  rw [hT] at a0
  replace a0 : w.cell? ⟨b, off + i * 3, none⟩ = some (.string (nm [40])) := a0
  have HC := Lib.hid hC
  have HSG : Hid (∀ (i' : Nat) W, Below w.heap.size w W → Calls Tryz.prog 47 #[.slice (some ⟨b, off, none⟩) T.length c, .int .i64 (i' : Int)] W fun e w' => e = .returned (.string (nm (sgH (T.drop i')))) ∧ w' = W) := Lib.hid (fun i' W hW => rsign_any T B b off c i' _ rfl W (h.below hB hW) (Nat.le_trans hB hW.size))
  have hbw : b < w.heap.size := Nat.lt_of_lt_of_le h.lt hB
  have hlc := h.cap
  have hl8 := h.len
  have hi2 : (i : Int) < (T.length : Int) := by omega
  have HO := Lib.hid (lead_one [40] false rfl w (.cells zero6 tR))
  have HB2 := Lib.hid (fun o2 => two_below w (.cells zero6 tR) o2)
  have HX2 := Lib.hid (fun o2 => two_old w (.cells zero6 tR) o2)
  unfold zero6 at HO HB2 HX2
  obtain ⟨e1, e2⟩ := emp_no (b := nm [40]) (by rw [nm_data]; simp)
  have q0 : ((nm [40]).toList == [40]) = true := by rw [str_is]; rfl
  have q1 : ((nm [40]).toList != [40]) = false := by rw [str_neq]; rfl
  have q2 : (nm [40]).toList = [40] := by rw [listD, nm_data]
  have HN := Lib.hid (rfl : T.length = T.length)
  obtain ⟨n, hn⟩ : ∃ n, T.length = n := ⟨_, rfl⟩
  have HNN := Lib.hid hn
  clear hC h hT hi
  rw [hn] at HC HSG hlc hl8 hi2 ⊢
  clear HN hn
  generalize nm [40] = SP at *
  go_enter Tryz.func63, Tryz.ntmps63
  go_wp2_with (go_at_call 45; refine HO.out.mono ?_; rintro e W2 ⟨rfl, rfl⟩)
  refine calls_gen (fun W => Below w.heap.size w W ∧ W.heap[w.heap.size]? = some (.cells #[.string ByteArray.empty, .string ByteArray.empty, .int .i64 0, .slice none 0 0, .int .i64 0, .int .i64 0] tR (0, 0))) ⟨HB2.out _, HX2.out _⟩ ?_
  rintro W3 ⟨hb3, hx3⟩
  have HB3 := Lib.hid hb3
  have HX3 := Lib.hid hx3
  have hz3 := fin_at hx3
  clear hb3 hx3 HO HB2 HX2 a0
  refine (HC.out _ HB3.out).mono ?_
  intro e W4 hq
  obtain ⟨S9, N9, k9, A9, m9, q9, i9, x9, rfl⟩ := hq.form
  have HQ := Lib.hid hq
  have HX4 := Lib.hid ((hq.1.block w.heap.size hz3).trans HX3.out)
  have HB4 := Lib.hid (HB3.out.trans (hq.1.mono HB3.out.size))
  clear hq HC
  have HY4 := Lib.hid HX4.out
  obtain ⟨d0, d1, d2, d3, d4, d5, p0, p1, p2, p3, p4, p5, hzw⟩ := box6 HX4.out
  by_cases hx9 : x9 = 0
  · subst hx9
    obtain ⟨t, r, S', N', i', hM, rfl, rfl, rfl, hr, hi', hnd⟩ := HQ.out.got
    have HBA : Hid (∀ o, Below w.heap.size w (W4.alloc o)) := Lib.hid (fun o => HB4.out.alloc HB4.out.size o)
    have HSS := Lib.hid (fun o => HSG.out i' _ (HBA.out o))
    have hil : (i' : Int) ≤ (n : Int) := by have := HNN.out; omega
    by_cases h41 : sgH r = [41]
    · have q3 : ((nm (sgH r)).toList == [41]) = true := by rw [str_is, decide_eq_true h41]
      have q4 : ((nm (sgH r)).toList != [41]) = false := by rw [str_neq, decide_eq_true h41]; rfl
      have q5 : (nm (sgH r)).toList = [41] := by rw [listD, nm_data]; exact h41
      have hlt : i' < T.length := Nat.lt_of_not_le (fun hge => by
        rw [← hr, drop_no T i' (by omega)] at h41
        simp [sgH] at h41)
      have HF : Hid (∀ W6, Kept (· = w.heap.size) W4 W6 → RdP T (parM M) w (.returned (.agg #[.string (nm S'), .string (nm N'), .int .i64 k9, .slice A9 m9 q9, .int .i64 ((i' : Int) + 1), .int .i64 0])) W6) := Lib.hid (fun W6 h6 => by
        obtain ⟨g1, g2⟩ := pass_on HB3.out hz3 HQ.out.1 hnd h6
        refine RdP.yes (i := i' + 1) (r := T.drop (i' + 1)) (t := t) ?_ g1 rfl (by omega) g2 (by push_cast; rfl) rfl rfl
        rw [hM]
        show (if sgH r = [41] then Except.ok (t, r.drop 1) else Except.error 61 : Rr) = _
        rw [if_pos h41, ← hr, List.drop_drop])
      rw [hr] at HSS
      generalize nm (sgH r) = SR at *
      generalize nm S' = S' at *
      generalize nm N' = N' at *
      clear hM hr hnd h41 hlt hi' HBA HSG
      go_wp2_with (go_at_call 47; refine (HSS.out _).mono ?_; rintro e W5 ⟨rfl, rfl⟩)
      refine bodyPost_ret (results_cell_row rfl _ _ _ tR _ (0, 0) _ rfl (six_then HY4.out _ _ _ _ _ _ _).1 Tryz.underlying61 rfl (by kernel_rfl)) rfl ?_
      exact HF.out _ (six_then HY4.out _ _ _ _ _ _ _).2
    · have q3 : ((nm (sgH r)).toList == [41]) = false := by rw [str_is, decide_eq_false h41]
      have q4 : ((nm (sgH r)).toList != [41]) = true := by rw [str_neq, decide_eq_false h41]; rfl
      have q5 : ¬ (nm (sgH r)).toList = [41] := by rw [listD, nm_data]; exact h41
      have HF : Hid (∀ W6, Kept (· = w.heap.size) W4 W6 → RdP T (parM M) w (.returned (.agg #[.string ByteArray.empty, .string ByteArray.empty, .int .i64 0, .slice none 0 0, .int .i64 0, .int .i64 61])) W6) := Lib.hid (fun W6 h6 => RdP.badv (by rw [hM]; exact if_neg h41) (by decide) HB4.out h6)
      rw [hr] at HSS
      generalize nm (sgH r) = SR at *
      generalize nm S' = S' at *
      generalize nm N' = N' at *
      clear hM hr hnd h41 hi' HBA HSG
      go_wp2_with (go_at_call 47; refine (HSS.out _).mono ?_; rintro e W5 ⟨rfl, rfl⟩)
      refine bodyPost_ret (results_cell_row rfl _ _ _ tR _ (0, 0) _ rfl (six_then HY4.out _ _ _ _ _ _ _).1 Tryz.underlying61 rfl (by kernel_rfl)) rfl ?_
      exact HF.out _ (six_then HY4.out _ _ _ _ _ _ _).2
  · have hME := HQ.out.fell hx9
    have HF : Hid (∀ W6 i8, Kept (· = w.heap.size) W4 W6 → RdP T (parM M) w (.returned (.agg #[.string S9, .string N9, .int .i64 k9, .slice A9 m9 q9, .int .i64 i8, .int .i64 x9])) W6) := Lib.hid (fun W6 i8 h6 => RdP.badv (by rw [hME]; rfl) hx9 HB4.out h6)
    clear hME
    go_wp2_with fail
    refine bodyPost_ret (results_cell_row rfl _ _ _ tR _ (0, 0) _ rfl (six_then HY4.out _ _ _ _ _ _ _).1 Tryz.underlying61 rfl (by kernel_rfl)) rfl ?_
    exact HF.out _ _ (six_then HY4.out _ _ _ _ _ _ _).2
/-- All of unary. -/
theorem unary_any (d : Rd) (B b off c : Nat) (T : List Tok) (m dp : Nat) (hd : dp ≤ 65)
    (hL : dp ≤ 64 → RO 63 B b off c T m #[.int .i64 ((dp : Int) + 1)] (d.lead (dp + 1))) (hA : dp ≤ 64 → RO 16 B b off c T m #[.int .i64 ((dp : Int) + 1)] (d.all (dp + 1))) :
    RO 63 B b off c T (m + 1) #[.int .i64 (dp : Int)] (leadD d dp) := by
  intro i x w hx hm hi hB h
  subst hx
  show Calls _ _ #[.slice (some ⟨b, off, none⟩) T.length c, .int .i64 (i : Int), .int .i64 (dp : Int)] _ _
  by_cases h65 : dp = 65
  · subst h65
    exact un_deep T b off T.length c i w _ (if_pos rfl)
  · have hd64 : dp ≤ 64 := by omega
    have hl0 : leadD d dp (T.drop i) = match T.drop i with
      | [] => .error 61
      | .num _ n :: r => .ok (.const n, r)
      | .nam t :: r => .ok (.named t, r)
      | .sg s :: r => if leadsOf s = true then ledM s (d.lead (dp + 1) r) else if s = [40] then parM (d.all (dp + 1) r) else .error 61 := by
      unfold leadD
      rw [if_neg h65]
      cases T.drop i with
      | nil => rfl
      | cons u r => cases u with
        | num x k => rfl
        | nam x => rfl
        | sg s =>
          dsimp only
          split
          · cases d.lead (dp + 1) r <;> rfl
          · split
            · cases d.all (dp + 1) r with
              | error e => rfl
              | ok p =>
                obtain ⟨t, r2⟩ := p
                unfold parM
                dsimp only
                cases r2 with
                | nil => rfl
                | cons u r2 => cases u with
                  | num x k => rfl
                  | nam x => rfl
                  | sg s2 => rfl
            · rfl
    rw [hl0]
    by_cases hil : i < T.length
    · have hok := h.ok _ (List.getElem_mem hil)
      rw [drop_at T i hil]
      cases hT : T[i] with
      | num x k =>
        rw [hT] at hok
        exact un_plain T B b off c i dp (by omega) hil w h hB (by rw [hT]; rfl) _ _ rfl (fun D W => by rw [hT]; exact ⟨rfl, rfl, rfl, hok, none, 0, 0, rfl⟩)
      | nam x =>
        rw [hT] at hok
        exact un_plain T B b off c i dp (by omega) hil w h hB (by rw [hT]; rfl) _ _ rfl (fun D W => by rw [hT]; exact ⟨rfl, rfl, hok, none, 0, 0, rfl⟩)
      | sg s =>
        rw [hT] at hok
        have hs0 : s ≠ [] := (signs_len s hok).1
        dsimp only
        by_cases h1 : leadsOf s = true
        · rw [if_pos h1]
          exact un_led T B b off c i dp (by omega) (by omega) hil w h hB s hT hs0 h1 _ (fun W hW => hL hd64 (i + 1) _ W (by push_cast; rfl) (by omega) (by omega) (Nat.le_trans hB hW.size) (h.below hB hW))
        · rw [if_neg h1]
          by_cases h2 : s = [40]
          · rw [if_pos h2]
            subst h2
            exact un_par T B b off c i dp (by omega) (by omega) hil w h hB hT _ (fun W hW => hA hd64 (i + 1) _ W (by push_cast; rfl) (by omega) (by omega) (Nat.le_trans hB hW.size) (h.below hB hW))
          · rw [if_neg h2]
            exact un_bad T B b off c i dp (by omega) hil w h hB s (by rw [hT]; rfl) hs0 (by simpa using h1) h2 _ rfl
    · rw [drop_no T i hil]
      exact un_end T b off T.length c i dp (by omega) hil w _ rfl

end Go.Proofs.YtcadnkanjlmfhaaGreatDoor.Ar
