/- DERIVED. The document's own table: Unset. -/
import Derived.Test.YtdegkfnlafgheaaVrRNew
import Derived.Test.YtdegkfnlafgheaaVrMathL
namespace Go.Proofs.Ytdegkfnlafgheaa.Vr
open Go.RowKit
open PathM WdM VrM
open Go.Proofs.Ytdegkfnlafgheaa.Wd
set_option linter.unusedVariables false
theorem del_cons (x : Bs × Bs) (vs : Vs) (name : Bs) : delV (x :: vs) name = (if decide (x.1 = name) then [] else [x]) ++ delV vs name := by
  unfold delV
  rw [List.filter_cons]
  by_cases h : x.1 = name <;> simp [h]
def RUnsPost (a : Value) (st : Int) (vs' : Vs) (w : World) (e : Ending) (w' : World) : Prop := Below w.heap.size w w' ∧ ∃ vv', e = .returned (tblV vv' a st) ∧ VsIn w' vv' vs' ∧ ∀ k, vv'.ownBlock = some k → w.heap.size ≤ k
set_option maxRecDepth 100000 in
set_option maxHeartbeats 3200000 in
theorem runset_any (vs : Vs) (name : Bs) (vv : Value) (A2 : Option Addr) (n2 c2 : Nat) (st : Int) (w : World) (h : VsIn w vv vs) (hl : vs.length ≤ 64) :
    Calls Try.prog 29 #[tblV vv (.slice A2 n2 c2) st, .string (nm name)] w (RUnsPost (.slice A2 n2 c2) st (delV vs name) w) := by
  have HGO : Hid (([] : Vs) ++ delV (vs.drop 0) name = delV vs name) := Lib.hid rfl
  have HF : Hid (∀ W v', VsIn W v' (delV vs name) → (∀ k, v'.ownBlock = some k → w.heap.size ≤ k) → Below w.heap.size w W → RUnsPost (.slice A2 n2 c2) st (delV vs name) w (.returned (tblV v' (.slice A2 n2 c2) st)) W) := Lib.hid (fun W v' h hf hb => ⟨hb, v', rfl, h, hf⟩)
  obtain ⟨A, c, hvf, hlc, hcell⟩ := h
  have HCE : Hid (∀ i (h : i < vs.length), ∃ b off, A = some ⟨b, off, none⟩ ∧ b < w.heap.size ∧ ∀ W, Below w.heap.size w W → W.cell? ⟨b, off + i * 2, none⟩ = some (.string (nm vs[i].1)) ∧ W.cell? ⟨b, off + i * 2 + 1, none⟩ = some (.string (nm vs[i].2))) := Lib.hid (fun i h => by
    obtain ⟨b, off, h1, h2, h3⟩ := hcell (fun e => by rw [e] at h; simp at h)
    exact ⟨b, off, h1, h2, fun W hb => ⟨(World.cell?_of_block (hb.block b h2)).trans (h3 i h).1, (World.cell?_of_block (hb.block b h2)).trans (h3 i h).2⟩⟩)
  have HEQ := Lib.hid (fun a => eq_str a name)
  obtain ⟨n, hnn⟩ : ∃ n, vs.length = n := ⟨_, rfl⟩
  have HL := Lib.hid hnn
  rw [hnn] at hlc hl hvf
  have hl2 : (n : Int) ≤ 64 := by omega
  have hnc : (n : Int) ≤ (c : Int) := by omega
  subst hvf
  have HI0 : Hid (RSI w #[.slice A n c, .slice A2 n2 c2, .int .i64 st] #[.slice none 0 0, .slice none 0 0, .int .i64 0] [] (.slice none 0 0) ((w.alloc (.cells #[.slice A n c, .slice A2 n2 c2, .int .i64 st] 36)).alloc (.cells #[.slice none 0 0, .slice none 0 0, .int .i64 0] 36))) := Lib.hid ⟨two_old _ _ _, two_new _ _ _, World.ownsRow_nil _ _ _ _, two_below _ _ _⟩
  unfold tblV at *
  clear hcell hnn
  generalize RUnsPost (.slice A2 n2 c2) st (delV vs name) w = Q at *
  generalize HdM : delV vs name = M at *
  clear HdM
  obtain ⟨N, hN⟩ : ∃ N, nm name = N := ⟨_, rfl⟩
  rw [hN] at HEQ ⊢
  clear hN
  go_enter Try.func29, Try.ntmps29
  go_wp2_with fail
  go_loopg [5, 6] n (fun g x5 x6 wr => ∃ (i : Nat) (acc : Vs) (v : Value), x5 = v ∧ x6 = .int .i64 i ∧ i ≤ n ∧ g = n - i ∧ acc.length ≤ i ∧ Hid (RSI w #[.slice A n c, .slice A2 n2 c2, .int .i64 st] #[.slice none 0 0, .slice none 0 0, .int .i64 0] acc v wr) ∧ Hid (acc ++ delV (vs.drop i) name = M))
  case atStart => exact ⟨0, [], _, rfl, rfl, Nat.zero_le _, rfl, by simp, HI0, HGO⟩
  case round =>
    clear HI0 HGO
    obtain ⟨i, acc, v, rfl, rfl, hi, rfl, hal, HI, HG⟩ := hrel
    have c30 := cell_blk HI.out.b3 0
    simp at c30
    have hz3 := fin_at HI.out.b3
    obtain ⟨A9, c9, rfl, _⟩ := row_form HI.out.row
    by_cases hil : i < n
    · have hil2 : i < vs.length := by have := HL.out; omega
      obtain ⟨b, off, rfl, hb, hcs⟩ := HCE.out i hil2
      obtain ⟨a0, a1⟩ := hcs wr HI.out.bel
      have hbw : b < wr.heap.size := by have := HI.out.bel.size; omega
      have hd : vs.drop i = vs[i] :: vs.drop (i + 1) := List.drop_eq_getElem_cons hil2
      have hG := HG.out
      rw [hd] at hG
      have q2 := HEQ.out vs[i].1
      generalize vs[i] = x at *
      obtain ⟨x1, x2⟩ := x
      dsimp only at a0 a1 hcs q2
      rw [del_cons] at hG
      obtain ⟨X1, hX1⟩ : ∃ X, nm x1 = X := ⟨_, rfl⟩
      obtain ⟨X2, hX2⟩ : ∃ X, nm x2 = X := ⟨_, rfl⟩
      have HX1 := Lib.hid hX1
      have HX2 := Lib.hid hX2
      rw [hX1] at a0 q2
      rw [hX2] at a1
      simp only [hX1, hX2] at hcs
      clear hX1 hX2 hd HCE HEQ HG HF HL
      dsimp only at hG
      by_cases he : x1 = name
      · rw [decide_eq_true he] at q2 hG
        have HG2 : Hid (acc ++ delV (vs.drop (i + 1)) name = M) := Lib.hid (by rw [← hG]; simp)
        clear hG
        go_wp2_with fail
        go_roundg (n - (i + 1))
        case measure => omega
        case rel => exact ⟨i + 1, acc, _, rfl, rfl, by omega, rfl, by omega, HI, HG2⟩
      · rw [decide_eq_false he] at q2 hG
        have HG2 : Hid (acc ++ [(x1, x2)] ++ delV (vs.drop (i + 1)) name = M) := Lib.hid (by rw [← hG]; simp)
        clear hG
        go_wp2_with (first | (at_builtin; refine RSI.app HI (by rfl) _ _ (by rfl) x1 x2 X1 X2 HX1 HX2 (by rfl) (by rfl) (by omega) acc.length rfl ?_; intro A5 c5 w5 h5 hs5; have HI5 := Lib.hid h5; have c35 := cell_blk h5.b3 0; simp at c35; have hz5 := fin_at h5.b3; clear h5))
        go_roundg (n - (i + 1))
        case measure => omega
        case rel => exact ⟨i + 1, acc ++ [(x1, x2)], _, rfl, rfl, by omega, rfl, by simp; omega, HI5, HG2⟩
    · have hd : vs.drop i = [] := List.drop_of_length_le (by have := HL.out; omega)
      have hG := HG.out
      rw [hd] at hG
      have hG2 : M = acc := by rw [← hG]; simp [delV]
      have HFN := Lib.hid hG2
      clear hd HCE HEQ HG HL hG hG2
      have c31 := cell_blk HI.out.b3 1
      have c32 := cell_blk HI.out.b3 2
      have c60 := cell_blk HI.out.b6 0
      have c61 := cell_blk HI.out.b6 1
      have c62 := cell_blk HI.out.b6 2
      simp at c31 c32 c60 c61 c62
      have f30 := froz_blk HI.out.b3 0
      have f60 := froz_blk HI.out.b6 0
      have f61 := froz_blk HI.out.b6 1
      have f62 := froz_blk HI.out.b6 2
      have hz6 := fin_at HI.out.b6
      go_wp2_with fail
      have kf := HI.out.fresh
      obtain ⟨k1, k2, k3⟩ := HI.out.fin (.slice A9 acc.length c9) (.slice A9 acc.length c9) (.slice A2 n2 c2) (.int .i64 st)
      refine bodyPost_ret (results_cell_row rfl _ _ _ 36 _ (0, 0) _ rfl (set_blk (set_blk (set_blk k3 _) _) _) Try.underlying36 rfl (by kernel_rfl)) rfl ?_
      exact HF.out _ _ (HFN.out ▸ k1) kf k2
end Go.Proofs.Ytdegkfnlafgheaa.Vr
