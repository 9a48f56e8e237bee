/- DERIVED. Stage 5, several texts in one: VtThru6 VtStep VtFind. -/
import Derived.Test.YtpicgkoclbpjpaaGreatDoorVnG9
import Derived.Test.YtpicgkoclbpjpaaGreatDoorVnG5
import Derived.Test.YtpicgkoclbpjpaaGreatDoorVnG6
import Derived.Deep.RegionHeld3
import Derived.Deep.LoopGhost
import Derived.Deep.CutRange
section
namespace Go.Proofs.YtpicgkoclbpjpaaGreatDoor
open Go.RowKit Go.Sort Go.Lib Go.Shelf
open PathM TreeM VtM
set_option linter.unusedVariables false
attribute [local go_sem] cell_rg
attribute [local go_sem] cell_off
theorem own_set (w : World) (wb j : Nat) (u : Value) : Kept (fun k => k = wb) w (w.setCell ⟨wb, j, none⟩ u) := Kept.setCell ⟨wb, j, none⟩ u rfl
theorem Kept.after {S : Nat → Prop} {a b c : World} (h : Kept S a b) (hb : Below a.heap.size b c) : Kept S a c :=
  ⟨hb.os.trans h.os, hb.tape.trans h.tape, hb.output.trans h.output, Nat.le_trans h.size hb.size, fun i hi hs => (hb.block i hi).trans (h.block i hi hs)⟩
theorem StrsIn.kept {w W : World} {wb : Nat} {v : Value} {l : List Bs} (h : StrsIn w w.heap.size v l) (hk : Kept (fun k => k = wb) w W) (hT : OfType w wb 133) : StrsIn W w.heap.size v l :=
  h.keep fun b hb ht => hk.block b hb (fun e => OfType.ne ht hT (by decide) e)
theorem IntsIn.kept {w W : World} {wb : Nat} {v : Value} {l : List Int} (h : IntsIn w w.heap.size v l) (hk : Kept (fun k => k = wb) w W) (hT : OfType w wb 133) : IntsIn W W.heap.size v l :=
  (h.keep fun b hb ht => hk.block b hb (fun e => OfType.ne ht hT (by decide) e)).more hk.size
theorem drop_own (g : Nat) (d : Bs) (W : World) (h : W.ownsRow g 9 1 (.slice (some ⟨g, 0, none⟩) (btw d).length (btw d).length) (btw d).length ((btw d).map encN)) (hbt : (btw d).length ≤ maxLen) :
    Calls Tryz.prog 134 #[.slice (some ⟨g, 0, none⟩) (btw d).length (btw d).length, .func (.func 135) #[] #[]] W fun e w' => e = .returned (.slice (some ⟨g, 0, none⟩) (names d).length (btw d).length) ∧ w'.ownsRow g 9 1 (.slice (some ⟨g, 0, none⟩) (names d).length (btw d).length) (names d).length ((names d).map encN) ∧ Below g W w' := by
  obtain ⟨g', c', e, _, _, _, _, _, hH⟩ := holds_of_ownsRow h (by simp)
  injection e with e1
  injection e1 with e1
  injection e1 with e1
  subst e1
  refine (dropNames_any g _ _ 0 (btw d) W rfl hbt (Nat.le_refl _) hH).mono ?_
  rintro e w4 ⟨rfl, q4, rfl⟩
  have hle : (names d).length ≤ (btw d).length := List.length_filter_le _ _
  have h2 := ownsRow_putRow (q := q4) (ys := (names d) ++ List.replicate ((btw d).length - (names d).length) ([] : Bs)) (k := (names d).length) h (by simp; omega) hle
  rw [List.take_left] at h2
  exact ⟨rfl, h2, below_putRow (Below.refl _ _) (Nat.le_refl _)⟩
theorem thru_end {w w5 w7 : World} {wb db n : Nat} {c1 c2 c3 c4 lv dv : Value} {l : List Bs} {ds : List Int} {sl fw : Bool} (h : w7.heap[wb]? = some (.cells #[.iface 31 (.pointer (some ⟨db, 0, none⟩)), c1, c2, c3, c4, lv, .bool sl, .bool fw, .int .i64 ((n : Int) + 1)] 133 (0, 0)))
    (h57 : Kept (fun k => k = wb) w5 w7) (h5 : Kept (fun k => k = wb) w w5) (hT : OfType w5 wb 133) (hS : StrsIn w5 w5.heap.size lv l) (hI : ∀ W, Kept (fun k => k = wb) w W → IntsIn W W.heap.size dv ds) :
    (∃ dv' lv', WalkIn ((((w7.setCell ⟨wb, 1, none⟩ dv).setCell ⟨wb, 2, none⟩ (.string (nm []))).setCell ⟨wb, 3, none⟩ (.int .i64 (lastI ds))).setCell ⟨wb, 4, none⟩ (.bool false)) wb db ⟨ds, [], lastI ds, l, sl, n + 1⟩ fw dv' lv') ∧
    Kept (fun k => k = wb) w ((((w7.setCell ⟨wb, 1, none⟩ dv).setCell ⟨wb, 2, none⟩ (.string (nm []))).setCell ⟨wb, 3, none⟩ (.int .i64 (lastI ds))).setCell ⟨wb, 4, none⟩ (.bool false)) := by
  have hk := at_kept h57 dv (.string (nm [])) (.int .i64 (lastI ds)) (.bool false)
  refine ⟨⟨dv, lv, ⟨at_set h _ _ _ _, hI _ (h5.trans hk), (hS.kept hk hT).more hk.size⟩⟩, h5.trans hk⟩
theorem holds_set {W : World} {B g n : Nat} {l : List Bs} (h : W.ownsRow B 9 1 (.slice (some ⟨g, 0, none⟩) n n) n (l.map encN)) {a : Addr} (ha : a.block < B) (u : Value) : Holds encN (W.setCell a u) g 0 l.toArray := by
  obtain ⟨g', c', e, _, _, _, _, _, hH⟩ := holds_of_ownsRow (ownsRow_setCell_below h ha u) (by simp)
  injection e with e1
  injection e1 with e1
  injection e1 with e1
  subst e1
  exact hH
set_option maxRecDepth 100000 in
set_option maxHeartbeats 4000000 in
theorem through_good (wb db mb : Nat) (t : Tr) (ev : Int → Value) (s : WS) (fw : Bool) (dv lv : Value) (w : World) (hw : WalkIn w wb db s fw dv lv) (h8 : ¬ 8 < s.hops + 1) (hid : i64 s.node) (hlong : ((btw (nod t.nodes s.node).data).any fun b => decide (64 < b.length)) = false) (hlen : (nod t.nodes s.node).data.length ≤ 4096)
    (hne : s.dirs ≠ []) (hdl : s.dirs.length ≤ 1000000) (hll : s.left.length ≤ 1000000)
    (hD : ∀ W, Kept (fun k => k = wb) w W → DiskIn W db mb t ev) (hM : ∀ W, Kept (fun k => k = wb) w W → ∃ m, W.cell? ⟨0, 0, none⟩ = some (.int .i64 m)) :
    Calls Tryz.prog 101 #[.pointer (some ⟨wb, 0, none⟩)] w (ThruPost wb db fw (.ok ⟨if (nod t.nodes s.node).data.head? = some 47 then s.dirs.take 1 else s.dirs, [], lastI (if (nod t.nodes s.node).data.head? = some 47 then s.dirs.take 1 else s.dirs), names (nod t.nodes s.node).data ++ s.left, s.slash || (decide (s.left.length = 0) && (nod t.nodes s.node).data.getLast? == some 47), s.hops + 1⟩) w) := by
  unfold ThruPost
  dsimp only
  have k0 := cell_blk hw.blk 0
  have k3 := cell_blk hw.blk 3
  have k8 := cell_blk hw.blk 8
  have f8 := froz_blk hw.blk 8
  simp at k0 k3 k8
  have RB1 := set_blk (j := 8) hw.blk (.int .i64 ((s.hops : Int) + 1))
  simp at RB1
  have g0 := cell_blk RB1 0
  have g3 := cell_blk RB1 3
  have g6 := cell_blk RB1 6
  have g5 := cell_blk RB1 5
  simp at g0 g3 g6 g5
  have hlt := blk_lt RB1
  have hwlt := blk_lt hw.blk
  have HRB1 := Lib.hid RB1
  have HDIRS := Lib.hid hw.dirs
  have HLEFT := Lib.hid hw.left
  have HNE := Lib.hid hne
  have HDL := Lib.hid hdl
  have HLL := Lib.hid hll
  clear RB1
  have hm := method_Node
  have hfd := field_data
  have HN := Lib.hid (fun W (hW : Kept (fun k => k = wb) w W) => dnode_any db mb t ev s.node W (hD W hW) hid)
  have hsp : ∀ W, Kept (fun k => k = wb) w W → Calls Tryz.prog 131 #[.string (nm (nod t.nodes s.node).data), .string ⟨#[47]⟩] W fun e w' => e = .returned (.slice (some ⟨W.heap.size, 0, none⟩) (btw (nod t.nodes s.node).data).length (btw (nod t.nodes s.node).data).length) ∧ w' = W.alloc (.cells ((btw (nod t.nodes s.node).data).map encN).toArray 9) := fun W hW => split_any (nm (nod t.nodes s.node).data) ⟨#[47]⟩ rfl W (by rw [sizeD]; exact Nat.lt_of_le_of_lt hlen (by decide)) (hM W hW)
  have HS := Lib.hid hsp
  clear hsp
  have HLEN := Lib.hid hlen
  have HLONG := Lib.hid hlong
  obtain ⟨Al, cl, hlv⟩ := hw.left.len
  subst hlv
  obtain ⟨bd, od, cd, hdv, hcd, -⟩ := hw.dirs.cases hne
  subst hdv
  have hpos := List.length_pos_iff.2 hne
  have hcd1 : (1 : Int) ≤ (cd : Int) := by omega
  have hT : OfType w wb 133 := OfType.of hw.blk
  have HT := Lib.hid hT
  have HA0 := Lib.hid (fun W (hW : Kept (fun k => k = wb) w W) => alone_any _ s.dirs W (hw.dirs.kept hW hT) hne hdl)
  have HA1 := Lib.hid (fun W (hW : Kept (fun k => k = wb) w W) => alone_any _ (s.dirs.take 1) W ((hw.dirs.kept hW hT).take 1 hpos) (by simp [hne]) (by simp; omega))
  have hsx : ∀ W, Calls Tryz.prog 97 #[.string (nm (nod t.nodes s.node).data), .string ⟨#[47]⟩] W fun e w' => e = .returned (.bool ((nod t.nodes s.node).data.getLast? == some 47)) ∧ w' = W := fun W => by rw [← suffix_slash]; exact Tryz.strings_HasSuffix (nm (nod t.nodes s.node).data) ⟨#[47]⟩ W (by rw [sizeD]; exact Nat.le_trans hlen (by decide))
  have HPOS := Lib.hid hpos
  have HSX := Lib.hid hsx
  have hpx : ∀ W, Calls Tryz.prog 136 #[.string (nm (nod t.nodes s.node).data), .string ⟨#[47]⟩] W fun e w' => e = .returned (.bool ((nod t.nodes s.node).data.head? == some 47)) ∧ w' = W := fun W => by rw [← prefix_slash]; exact Tryz.strings_HasPrefix (nm (nod t.nodes s.node).data) ⟨#[47]⟩ W
  have HPX := Lib.hid hpx
  clear hsx hpx
  generalize nod t.nodes s.node = nd at *
  have hbt : (btw nd.data).length ≤ maxLen := by have := btw_len nd.data; unfold maxLen; omega
  have HBT := Lib.hid hbt
  generalize s.slash = sl at *
  generalize s.left = ll at *
  generalize s.node = id at *
  generalize s.hops = n at *
  generalize s.dirs = dd at *
  have q : ¬ (8 : Int) < (n : Int) + 1 := by omega
  have q2 : (n : Int) ≤ 8 := by omega
  clear hw h8 hid hD hM hlong hlen hbt hne hdl hll hpos hcd hT
  obtain ⟨sfx, hsfx⟩ : ∃ b, (nd.data.getLast? == some 47) = b := ⟨_, rfl⟩
  obtain ⟨pfx, hpfx⟩ : ∃ b, (nd.data.head? == some 47) = b := ⟨_, rfl⟩
  have hpf : (if nd.data.head? = some 47 then dd.take 1 else dd) = (if pfx = true then dd.take 1 else dd) := by
    rw [← hpfx]; simp
  rw [hpf, hsfx]
  rw [hsfx] at HSX
  rw [hpfx] at HPX
  clear hpf hsfx hpfx
  obtain ⟨res, hres⟩ : ∃ b, (sl || (decide (ll.length = 0) && sfx)) = b := ⟨_, rfl⟩
  rw [hres]
  have HRES := Lib.hid hres
  clear hres
  have hll0 : (0 : Int) ≤ (ll.length : Int) := by omega
  cases pfx with
  | true =>
    rw [if_pos rfl]
    have HAX := HA1
    have HIX := Lib.hid (fun W (hW : Kept (fun k => k = wb) w W) => (HDIRS.out.kept hW HT.out).take 1 HPOS.out)
    clear HA0 HA1
    unfold ndV at HN
    unfold plV at HAX
    go_enter Tryz.func101, Tryz.ntmps101
    go_wp2
    have HK0 : Hid (Kept (fun k => k = wb) w (w.setCell ⟨wb, 8, none⟩ (.int .i64 ((n : Int) + 1)))) := Lib.hid (Kept.setCell _ _ rfl)
    generalize w.setCell ⟨wb, 8, none⟩ (.int .i64 ((n : Int) + 1)) = W1 at *
    clear k0 k3 k8 f8
    refine wp_region_quiet_below (by kernel_rfl) (by kernel_rfl) ?_
    repeat (first | go_big_quiet_step (((go_at_call 202; exact Calls.regrown_of (HN.out _ (HK0.out.trans (kept_of_below (below_regrown _ _ _))))))) | quiet_step (((go_at_call 202; exact Calls.regrown_of (HN.out _ (HK0.out.trans (kept_of_below (below_regrown _ _ _))))))))
    refine wpQuiet_nil ?_
    intro _ hw'
    obtain ⟨⟨dq, osq⟩, hw''⟩ := hw'
    subst hw''
    have HK1 : Hid (Kept (fun k => k = wb) w (grow (redrawn W1 dq) osq)) := Lib.hid (HK0.out.trans (kept_of_below (below_regrown _ _ _)))
    have HRB2 : Hid ((grow (redrawn W1 dq) osq).heap[wb]? = _) := Lib.hid (((below_regrown W1 dq osq).block _ hlt).trans HRB1.out)
    generalize grow (redrawn W1 dq) osq = W2 at *
    clear g0 g3 g6 g5 hlt
    have hwb2 := blk_lt HRB2.out
    have HGE := Lib.hid HK1.out.size
    have hln : ((names nd.data).length + ll.length) * 16 ≤ 140737488355328 := by have := names_len nd.data; have := HLEN.out; have := HLL.out; omega
    have HLN := Lib.hid hln
    clear hln
    cases sl with
    | true =>
      obtain rfl : res = true := by simpa using HRES.out.symm
      go_wp2_with (first | (go_at_call 131; (with_reducible refine (HS.out _ HK1.out).mono ?_); rintro e w2 ⟨rfl, rfl⟩) | (go_at_call 132; (with_reducible refine (longNames_any _ _ _ 0 (btw nd.data) _ rfl HBT.out (names_cells _ _ _)).mono ?_); rintro e w3 ⟨rfl, qd, rfl⟩; rw [HLONG.out]; have HK3 := Lib.hid ((HK1.out.trans (kept_of_below ((Below.refl _ _).alloc (Nat.le_refl _) (.cells ((btw nd.data).map encN).toArray 9)))).trans (kept_of_below (below_drewN' (Below.refl _ _) qd))); have HR3 := Lib.hid (ownsRow_drewN (row_made W2 (btw nd.data) HBT.out) qd); have HRB3 : Hid (((W2.alloc (.cells ((btw nd.data).map encN).toArray 9)).drewN qd).heap[wb]? = _) := Lib.hid ((heap_alloc_old W2 _ hwb2).trans HRB2.out); generalize ((W2.alloc (.cells ((btw nd.data).map encN).toArray 9)).drewN qd) = W3 at *; have g6 := cell_blk HRB3.out 6; have g5 := cell_blk HRB3.out 5; have f6 := froz_blk HRB3.out 6; simp at g6 g5) | (go_at_call 134; (with_reducible refine (drop_own W2.heap.size nd.data _ (ownsRow_setCell_below HR3.out (a := ⟨wb, 6, none⟩) hwb2 _) HBT.out).mono ?_); rintro e w4 ⟨rfl, hr4, hb4⟩; have HRB4 : Hid (w4.heap[wb]? = _) := Lib.hid ((hb4.block wb hwb2).trans (set_blk (j := 6) HRB3.out _)); have HK4 : Hid (Kept (fun k => k = wb) w w4) := Lib.hid ((HK3.out.trans (Kept.setCell ⟨wb, 6, none⟩ _ rfl)).after (hb4.mono HGE.out)); have HR4 := Lib.hid hr4; clear g6 g5 f6 hr4 hb4; have g5 := cell_blk HRB4.out 5; have f5 := froz_blk HRB4.out 5; simp at g5) | (at_builtin; (refine wpList_app_strs rfl _ _ rfl W2.heap.size _ (names nd.data) ll _ rfl rfl HR4.out (Nat.le_of_lt (HR4.out.lt _ rfl).2) (.slice Al ll.length cl) w.heap.size rfl (HLEFT.out.kept HK4.out HT.out) HLN.out ?_); intro v5 w5 hown5 hg5; obtain ⟨A5, c5, rfl⟩ := ownsRow_len3 hown5; have hb5 := (Below.refl W2.heap.size w4).grown hg5 (Nat.le_of_lt (HR4.out.lt _ rfl).2) (own_ge (Nat.le_refl _) _ _); have HRB5 : Hid (w5.heap[wb]? = _) := Lib.hid ((hb5.block wb hwb2).trans HRB4.out); have HK5 := Lib.hid (HK4.out.after (hb5.mono HGE.out)); have HO5 := Lib.hid hown5; clear g5 f5 hown5 hg5 hb5; have f5 := froz_blk HRB5.out 5; have g1 := cell_blk HRB5.out 1; have g5 := cell_blk HRB5.out 5; simp at g1 g5) | (go_at_call 136; (with_reducible refine (HPX.out _).mono ?_); rintro e w' ⟨rfl, rfl⟩) | (go_at_call 78; (with_reducible refine (HAX.out _ (HK5.out.trans (Kept.setCell ⟨wb, 5, none⟩ _ rfl))).mono ?_); rintro e w7 ⟨rfl, hb7⟩; have rb7 := (hb7.block wb (by simp; exact blk_lt HRB5.out)).trans (set_blk (j := 5) HRB5.out _); simp at rb7; have HRB7 := Lib.hid rb7; clear rb7; have HK57 : Hid (Kept (fun k => k = wb) w5 w7) := Lib.hid ((own_set w5 wb 5 _).trans (kept_of_below hb7)); clear hb7 f5 g1 g5; have e1 := froz_blk HRB7.out 1; have e2 := froz_blk HRB7.out 2; have e3 := froz_blk HRB7.out 3; have e4 := froz_blk HRB7.out 4; have p1 := cell_blk HRB7.out 1; have p2 := cell_blk HRB7.out 2; have p3 := cell_blk HRB7.out 3; have p4 := cell_blk HRB7.out 4; simp at p1 p2 p3 p4))
      have hT5 : OfType w5 wb 133 := OfType.of HRB5.out
      have hST := strs_of_row rfl HO5.out
      simp at hST
      go_ret
      exact ⟨rfl, thru_end HRB7.out HK57.out HK5.out hT5 hST HIX.out⟩
    | false =>
      by_cases hl0 : ll = []
      · obtain rfl : res = sfx := by simpa [hl0] using HRES.out.symm
        have hq : (((ll.length : Nat) : Int) == 0) = true := by simp [hl0]
        clear hl0
        go_wp2_with (first | (go_at_call 131; (with_reducible refine (HS.out _ HK1.out).mono ?_); rintro e w2 ⟨rfl, rfl⟩) | (go_at_call 132; (with_reducible refine (longNames_any _ _ _ 0 (btw nd.data) _ rfl HBT.out (names_cells _ _ _)).mono ?_); rintro e w3 ⟨rfl, qd, rfl⟩; rw [HLONG.out]; have HK3 := Lib.hid ((HK1.out.trans (kept_of_below ((Below.refl _ _).alloc (Nat.le_refl _) (.cells ((btw nd.data).map encN).toArray 9)))).trans (kept_of_below (below_drewN' (Below.refl _ _) qd))); have HR3 := Lib.hid (ownsRow_drewN (row_made W2 (btw nd.data) HBT.out) qd); have HRB3 : Hid (((W2.alloc (.cells ((btw nd.data).map encN).toArray 9)).drewN qd).heap[wb]? = _) := Lib.hid ((heap_alloc_old W2 _ hwb2).trans HRB2.out); generalize ((W2.alloc (.cells ((btw nd.data).map encN).toArray 9)).drewN qd) = W3 at *; have g6 := cell_blk HRB3.out 6; have g5 := cell_blk HRB3.out 5; have f6 := froz_blk HRB3.out 6; simp at g6 g5) | (go_at_call 97; (with_reducible refine (HSX.out _).mono ?_); rintro e w' ⟨rfl, rfl⟩) | (go_at_call 134; (with_reducible refine (drop_own W2.heap.size nd.data _ (ownsRow_setCell_below HR3.out (a := ⟨wb, 6, none⟩) hwb2 _) HBT.out).mono ?_); rintro e w4 ⟨rfl, hr4, hb4⟩; have HRB4 : Hid (w4.heap[wb]? = _) := Lib.hid ((hb4.block wb hwb2).trans (set_blk (j := 6) HRB3.out _)); have HK4 : Hid (Kept (fun k => k = wb) w w4) := Lib.hid ((HK3.out.trans (Kept.setCell ⟨wb, 6, none⟩ _ rfl)).after (hb4.mono HGE.out)); have HR4 := Lib.hid hr4; clear g6 g5 f6 hr4 hb4; have g5 := cell_blk HRB4.out 5; have f5 := froz_blk HRB4.out 5; simp at g5) | (at_builtin; (refine wpList_app_strs rfl _ _ rfl W2.heap.size _ (names nd.data) ll _ rfl rfl HR4.out (Nat.le_of_lt (HR4.out.lt _ rfl).2) (.slice Al ll.length cl) w.heap.size rfl (HLEFT.out.kept HK4.out HT.out) HLN.out ?_); intro v5 w5 hown5 hg5; obtain ⟨A5, c5, rfl⟩ := ownsRow_len3 hown5; have hb5 := (Below.refl W2.heap.size w4).grown hg5 (Nat.le_of_lt (HR4.out.lt _ rfl).2) (own_ge (Nat.le_refl _) _ _); have HRB5 : Hid (w5.heap[wb]? = _) := Lib.hid ((hb5.block wb hwb2).trans HRB4.out); have HK5 := Lib.hid (HK4.out.after (hb5.mono HGE.out)); have HO5 := Lib.hid hown5; clear g5 f5 hown5 hg5 hb5; have f5 := froz_blk HRB5.out 5; have g1 := cell_blk HRB5.out 1; have g5 := cell_blk HRB5.out 5; simp at g1 g5) | (go_at_call 136; (with_reducible refine (HPX.out _).mono ?_); rintro e w' ⟨rfl, rfl⟩) | (go_at_call 78; (with_reducible refine (HAX.out _ (HK5.out.trans (Kept.setCell ⟨wb, 5, none⟩ _ rfl))).mono ?_); rintro e w7 ⟨rfl, hb7⟩; have rb7 := (hb7.block wb (by simp; exact blk_lt HRB5.out)).trans (set_blk (j := 5) HRB5.out _); simp at rb7; have HRB7 := Lib.hid rb7; clear rb7; have HK57 : Hid (Kept (fun k => k = wb) w5 w7) := Lib.hid ((own_set w5 wb 5 _).trans (kept_of_below hb7)); clear hb7 f5 g1 g5; have e1 := froz_blk HRB7.out 1; have e2 := froz_blk HRB7.out 2; have e3 := froz_blk HRB7.out 3; have e4 := froz_blk HRB7.out 4; have p1 := cell_blk HRB7.out 1; have p2 := cell_blk HRB7.out 2; have p3 := cell_blk HRB7.out 3; have p4 := cell_blk HRB7.out 4; simp at p1 p2 p3 p4))
        have hT5 : OfType w5 wb 133 := OfType.of HRB5.out
        have hST := strs_of_row rfl HO5.out
        simp at hST
        go_ret
        exact ⟨rfl, thru_end HRB7.out HK57.out HK5.out hT5 hST HIX.out⟩
      · obtain rfl : res = false := by simpa [hl0] using HRES.out.symm
        have hq : (((ll.length : Nat) : Int) == 0) = false := by simp [hl0]
        clear hl0
        go_wp2_with (first | (go_at_call 131; (with_reducible refine (HS.out _ HK1.out).mono ?_); rintro e w2 ⟨rfl, rfl⟩) | (go_at_call 132; (with_reducible refine (longNames_any _ _ _ 0 (btw nd.data) _ rfl HBT.out (names_cells _ _ _)).mono ?_); rintro e w3 ⟨rfl, qd, rfl⟩; rw [HLONG.out]; have HK3 := Lib.hid ((HK1.out.trans (kept_of_below ((Below.refl _ _).alloc (Nat.le_refl _) (.cells ((btw nd.data).map encN).toArray 9)))).trans (kept_of_below (below_drewN' (Below.refl _ _) qd))); have HR3 := Lib.hid (ownsRow_drewN (row_made W2 (btw nd.data) HBT.out) qd); have HRB3 : Hid (((W2.alloc (.cells ((btw nd.data).map encN).toArray 9)).drewN qd).heap[wb]? = _) := Lib.hid ((heap_alloc_old W2 _ hwb2).trans HRB2.out); generalize ((W2.alloc (.cells ((btw nd.data).map encN).toArray 9)).drewN qd) = W3 at *; have g6 := cell_blk HRB3.out 6; have g5 := cell_blk HRB3.out 5; have f6 := froz_blk HRB3.out 6; simp at g6 g5) | (go_at_call 134; (with_reducible refine (drop_own W2.heap.size nd.data _ (ownsRow_setCell_below HR3.out (a := ⟨wb, 6, none⟩) hwb2 _) HBT.out).mono ?_); rintro e w4 ⟨rfl, hr4, hb4⟩; have HRB4 : Hid (w4.heap[wb]? = _) := Lib.hid ((hb4.block wb hwb2).trans (set_blk (j := 6) HRB3.out _)); have HK4 : Hid (Kept (fun k => k = wb) w w4) := Lib.hid ((HK3.out.trans (Kept.setCell ⟨wb, 6, none⟩ _ rfl)).after (hb4.mono HGE.out)); have HR4 := Lib.hid hr4; clear g6 g5 f6 hr4 hb4; have g5 := cell_blk HRB4.out 5; have f5 := froz_blk HRB4.out 5; simp at g5) | (at_builtin; (refine wpList_app_strs rfl _ _ rfl W2.heap.size _ (names nd.data) ll _ rfl rfl HR4.out (Nat.le_of_lt (HR4.out.lt _ rfl).2) (.slice Al ll.length cl) w.heap.size rfl (HLEFT.out.kept HK4.out HT.out) HLN.out ?_); intro v5 w5 hown5 hg5; obtain ⟨A5, c5, rfl⟩ := ownsRow_len3 hown5; have hb5 := (Below.refl W2.heap.size w4).grown hg5 (Nat.le_of_lt (HR4.out.lt _ rfl).2) (own_ge (Nat.le_refl _) _ _); have HRB5 : Hid (w5.heap[wb]? = _) := Lib.hid ((hb5.block wb hwb2).trans HRB4.out); have HK5 := Lib.hid (HK4.out.after (hb5.mono HGE.out)); have HO5 := Lib.hid hown5; clear g5 f5 hown5 hg5 hb5; have f5 := froz_blk HRB5.out 5; have g1 := cell_blk HRB5.out 1; have g5 := cell_blk HRB5.out 5; simp at g1 g5) | (go_at_call 136; (with_reducible refine (HPX.out _).mono ?_); rintro e w' ⟨rfl, rfl⟩) | (go_at_call 78; (with_reducible refine (HAX.out _ (HK5.out.trans (Kept.setCell ⟨wb, 5, none⟩ _ rfl))).mono ?_); rintro e w7 ⟨rfl, hb7⟩; have rb7 := (hb7.block wb (by simp; exact blk_lt HRB5.out)).trans (set_blk (j := 5) HRB5.out _); simp at rb7; have HRB7 := Lib.hid rb7; clear rb7; have HK57 : Hid (Kept (fun k => k = wb) w5 w7) := Lib.hid ((own_set w5 wb 5 _).trans (kept_of_below hb7)); clear hb7 f5 g1 g5; have e1 := froz_blk HRB7.out 1; have e2 := froz_blk HRB7.out 2; have e3 := froz_blk HRB7.out 3; have e4 := froz_blk HRB7.out 4; have p1 := cell_blk HRB7.out 1; have p2 := cell_blk HRB7.out 2; have p3 := cell_blk HRB7.out 3; have p4 := cell_blk HRB7.out 4; simp at p1 p2 p3 p4))
        have hT5 : OfType w5 wb 133 := OfType.of HRB5.out
        have hST := strs_of_row rfl HO5.out
        simp at hST
        go_ret
        exact ⟨rfl, thru_end HRB7.out HK57.out HK5.out hT5 hST HIX.out⟩
  | false =>
    rw [if_neg (by decide)]
    have HAX := HA0
    have HIX := Lib.hid (fun W (hW : Kept (fun k => k = wb) w W) => HDIRS.out.kept hW HT.out)
    clear HA0 HA1
    unfold ndV at HN
    unfold plV at HAX
    go_enter Tryz.func101, Tryz.ntmps101
    go_wp2
    have HK0 : Hid (Kept (fun k => k = wb) w (w.setCell ⟨wb, 8, none⟩ (.int .i64 ((n : Int) + 1)))) := Lib.hid (Kept.setCell _ _ rfl)
    generalize w.setCell ⟨wb, 8, none⟩ (.int .i64 ((n : Int) + 1)) = W1 at *
    clear k0 k3 k8 f8
    refine wp_region_quiet_below (by kernel_rfl) (by kernel_rfl) ?_
    repeat (first | go_big_quiet_step (((go_at_call 202; exact Calls.regrown_of (HN.out _ (HK0.out.trans (kept_of_below (below_regrown _ _ _))))))) | quiet_step (((go_at_call 202; exact Calls.regrown_of (HN.out _ (HK0.out.trans (kept_of_below (below_regrown _ _ _))))))))
    refine wpQuiet_nil ?_
    intro _ hw'
    obtain ⟨⟨dq, osq⟩, hw''⟩ := hw'
    subst hw''
    have HK1 : Hid (Kept (fun k => k = wb) w (grow (redrawn W1 dq) osq)) := Lib.hid (HK0.out.trans (kept_of_below (below_regrown _ _ _)))
    have HRB2 : Hid ((grow (redrawn W1 dq) osq).heap[wb]? = _) := Lib.hid (((below_regrown W1 dq osq).block _ hlt).trans HRB1.out)
    generalize grow (redrawn W1 dq) osq = W2 at *
    clear g0 g3 g6 g5 hlt
    have hwb2 := blk_lt HRB2.out
    have HGE := Lib.hid HK1.out.size
    have hln : ((names nd.data).length + ll.length) * 16 ≤ 140737488355328 := by have := names_len nd.data; have := HLEN.out; have := HLL.out; omega
    have HLN := Lib.hid hln
    clear hln
    cases sl with
    | true =>
      obtain rfl : res = true := by simpa using HRES.out.symm
      go_wp2_with (first | (go_at_call 131; (with_reducible refine (HS.out _ HK1.out).mono ?_); rintro e w2 ⟨rfl, rfl⟩) | (go_at_call 132; (with_reducible refine (longNames_any _ _ _ 0 (btw nd.data) _ rfl HBT.out (names_cells _ _ _)).mono ?_); rintro e w3 ⟨rfl, qd, rfl⟩; rw [HLONG.out]; have HK3 := Lib.hid ((HK1.out.trans (kept_of_below ((Below.refl _ _).alloc (Nat.le_refl _) (.cells ((btw nd.data).map encN).toArray 9)))).trans (kept_of_below (below_drewN' (Below.refl _ _) qd))); have HR3 := Lib.hid (ownsRow_drewN (row_made W2 (btw nd.data) HBT.out) qd); have HRB3 : Hid (((W2.alloc (.cells ((btw nd.data).map encN).toArray 9)).drewN qd).heap[wb]? = _) := Lib.hid ((heap_alloc_old W2 _ hwb2).trans HRB2.out); generalize ((W2.alloc (.cells ((btw nd.data).map encN).toArray 9)).drewN qd) = W3 at *; have g6 := cell_blk HRB3.out 6; have g5 := cell_blk HRB3.out 5; have f6 := froz_blk HRB3.out 6; simp at g6 g5) | (go_at_call 134; (with_reducible refine (drop_own W2.heap.size nd.data _ (ownsRow_setCell_below HR3.out (a := ⟨wb, 6, none⟩) hwb2 _) HBT.out).mono ?_); rintro e w4 ⟨rfl, hr4, hb4⟩; have HRB4 : Hid (w4.heap[wb]? = _) := Lib.hid ((hb4.block wb hwb2).trans (set_blk (j := 6) HRB3.out _)); have HK4 : Hid (Kept (fun k => k = wb) w w4) := Lib.hid ((HK3.out.trans (Kept.setCell ⟨wb, 6, none⟩ _ rfl)).after (hb4.mono HGE.out)); have HR4 := Lib.hid hr4; clear g6 g5 f6 hr4 hb4; have g5 := cell_blk HRB4.out 5; have f5 := froz_blk HRB4.out 5; simp at g5) | (at_builtin; (refine wpList_app_strs rfl _ _ rfl W2.heap.size _ (names nd.data) ll _ rfl rfl HR4.out (Nat.le_of_lt (HR4.out.lt _ rfl).2) (.slice Al ll.length cl) w.heap.size rfl (HLEFT.out.kept HK4.out HT.out) HLN.out ?_); intro v5 w5 hown5 hg5; obtain ⟨A5, c5, rfl⟩ := ownsRow_len3 hown5; have hb5 := (Below.refl W2.heap.size w4).grown hg5 (Nat.le_of_lt (HR4.out.lt _ rfl).2) (own_ge (Nat.le_refl _) _ _); have HRB5 : Hid (w5.heap[wb]? = _) := Lib.hid ((hb5.block wb hwb2).trans HRB4.out); have HK5 := Lib.hid (HK4.out.after (hb5.mono HGE.out)); have HO5 := Lib.hid hown5; clear g5 f5 hown5 hg5 hb5; have f5 := froz_blk HRB5.out 5; have g1 := cell_blk HRB5.out 1; have g5 := cell_blk HRB5.out 5; simp at g1 g5) | (go_at_call 136; (with_reducible refine (HPX.out _).mono ?_); rintro e w' ⟨rfl, rfl⟩) | (go_at_call 78; (with_reducible refine (HAX.out _ (HK5.out.trans (Kept.setCell ⟨wb, 5, none⟩ _ rfl))).mono ?_); rintro e w7 ⟨rfl, hb7⟩; have rb7 := (hb7.block wb (by simp; exact blk_lt HRB5.out)).trans (set_blk (j := 5) HRB5.out _); simp at rb7; have HRB7 := Lib.hid rb7; clear rb7; have HK57 : Hid (Kept (fun k => k = wb) w5 w7) := Lib.hid ((own_set w5 wb 5 _).trans (kept_of_below hb7)); clear hb7 f5 g1 g5; have e1 := froz_blk HRB7.out 1; have e2 := froz_blk HRB7.out 2; have e3 := froz_blk HRB7.out 3; have e4 := froz_blk HRB7.out 4; have p1 := cell_blk HRB7.out 1; have p2 := cell_blk HRB7.out 2; have p3 := cell_blk HRB7.out 3; have p4 := cell_blk HRB7.out 4; simp at p1 p2 p3 p4))
      have hT5 : OfType w5 wb 133 := OfType.of HRB5.out
      have hST := strs_of_row rfl HO5.out
      simp at hST
      go_ret
      exact ⟨rfl, thru_end HRB7.out HK57.out HK5.out hT5 hST HIX.out⟩
    | false =>
      by_cases hl0 : ll = []
      · obtain rfl : res = sfx := by simpa [hl0] using HRES.out.symm
        have hq : (((ll.length : Nat) : Int) == 0) = true := by simp [hl0]
        clear hl0
        go_wp2_with (first | (go_at_call 131; (with_reducible refine (HS.out _ HK1.out).mono ?_); rintro e w2 ⟨rfl, rfl⟩) | (go_at_call 132; (with_reducible refine (longNames_any _ _ _ 0 (btw nd.data) _ rfl HBT.out (names_cells _ _ _)).mono ?_); rintro e w3 ⟨rfl, qd, rfl⟩; rw [HLONG.out]; have HK3 := Lib.hid ((HK1.out.trans (kept_of_below ((Below.refl _ _).alloc (Nat.le_refl _) (.cells ((btw nd.data).map encN).toArray 9)))).trans (kept_of_below (below_drewN' (Below.refl _ _) qd))); have HR3 := Lib.hid (ownsRow_drewN (row_made W2 (btw nd.data) HBT.out) qd); have HRB3 : Hid (((W2.alloc (.cells ((btw nd.data).map encN).toArray 9)).drewN qd).heap[wb]? = _) := Lib.hid ((heap_alloc_old W2 _ hwb2).trans HRB2.out); generalize ((W2.alloc (.cells ((btw nd.data).map encN).toArray 9)).drewN qd) = W3 at *; have g6 := cell_blk HRB3.out 6; have g5 := cell_blk HRB3.out 5; have f6 := froz_blk HRB3.out 6; simp at g6 g5) | (go_at_call 97; (with_reducible refine (HSX.out _).mono ?_); rintro e w' ⟨rfl, rfl⟩) | (go_at_call 134; (with_reducible refine (drop_own W2.heap.size nd.data _ (ownsRow_setCell_below HR3.out (a := ⟨wb, 6, none⟩) hwb2 _) HBT.out).mono ?_); rintro e w4 ⟨rfl, hr4, hb4⟩; have HRB4 : Hid (w4.heap[wb]? = _) := Lib.hid ((hb4.block wb hwb2).trans (set_blk (j := 6) HRB3.out _)); have HK4 : Hid (Kept (fun k => k = wb) w w4) := Lib.hid ((HK3.out.trans (Kept.setCell ⟨wb, 6, none⟩ _ rfl)).after (hb4.mono HGE.out)); have HR4 := Lib.hid hr4; clear g6 g5 f6 hr4 hb4; have g5 := cell_blk HRB4.out 5; have f5 := froz_blk HRB4.out 5; simp at g5) | (at_builtin; (refine wpList_app_strs rfl _ _ rfl W2.heap.size _ (names nd.data) ll _ rfl rfl HR4.out (Nat.le_of_lt (HR4.out.lt _ rfl).2) (.slice Al ll.length cl) w.heap.size rfl (HLEFT.out.kept HK4.out HT.out) HLN.out ?_); intro v5 w5 hown5 hg5; obtain ⟨A5, c5, rfl⟩ := ownsRow_len3 hown5; have hb5 := (Below.refl W2.heap.size w4).grown hg5 (Nat.le_of_lt (HR4.out.lt _ rfl).2) (own_ge (Nat.le_refl _) _ _); have HRB5 : Hid (w5.heap[wb]? = _) := Lib.hid ((hb5.block wb hwb2).trans HRB4.out); have HK5 := Lib.hid (HK4.out.after (hb5.mono HGE.out)); have HO5 := Lib.hid hown5; clear g5 f5 hown5 hg5 hb5; have f5 := froz_blk HRB5.out 5; have g1 := cell_blk HRB5.out 1; have g5 := cell_blk HRB5.out 5; simp at g1 g5) | (go_at_call 136; (with_reducible refine (HPX.out _).mono ?_); rintro e w' ⟨rfl, rfl⟩) | (go_at_call 78; (with_reducible refine (HAX.out _ (HK5.out.trans (Kept.setCell ⟨wb, 5, none⟩ _ rfl))).mono ?_); rintro e w7 ⟨rfl, hb7⟩; have rb7 := (hb7.block wb (by simp; exact blk_lt HRB5.out)).trans (set_blk (j := 5) HRB5.out _); simp at rb7; have HRB7 := Lib.hid rb7; clear rb7; have HK57 : Hid (Kept (fun k => k = wb) w5 w7) := Lib.hid ((own_set w5 wb 5 _).trans (kept_of_below hb7)); clear hb7 f5 g1 g5; have e1 := froz_blk HRB7.out 1; have e2 := froz_blk HRB7.out 2; have e3 := froz_blk HRB7.out 3; have e4 := froz_blk HRB7.out 4; have p1 := cell_blk HRB7.out 1; have p2 := cell_blk HRB7.out 2; have p3 := cell_blk HRB7.out 3; have p4 := cell_blk HRB7.out 4; simp at p1 p2 p3 p4))
        have hT5 : OfType w5 wb 133 := OfType.of HRB5.out
        have hST := strs_of_row rfl HO5.out
        simp at hST
        go_ret
        exact ⟨rfl, thru_end HRB7.out HK57.out HK5.out hT5 hST HIX.out⟩
      · obtain rfl : res = false := by simpa [hl0] using HRES.out.symm
        have hq : (((ll.length : Nat) : Int) == 0) = false := by simp [hl0]
        clear hl0
        go_wp2_with (first | (go_at_call 131; (with_reducible refine (HS.out _ HK1.out).mono ?_); rintro e w2 ⟨rfl, rfl⟩) | (go_at_call 132; (with_reducible refine (longNames_any _ _ _ 0 (btw nd.data) _ rfl HBT.out (names_cells _ _ _)).mono ?_); rintro e w3 ⟨rfl, qd, rfl⟩; rw [HLONG.out]; have HK3 := Lib.hid ((HK1.out.trans (kept_of_below ((Below.refl _ _).alloc (Nat.le_refl _) (.cells ((btw nd.data).map encN).toArray 9)))).trans (kept_of_below (below_drewN' (Below.refl _ _) qd))); have HR3 := Lib.hid (ownsRow_drewN (row_made W2 (btw nd.data) HBT.out) qd); have HRB3 : Hid (((W2.alloc (.cells ((btw nd.data).map encN).toArray 9)).drewN qd).heap[wb]? = _) := Lib.hid ((heap_alloc_old W2 _ hwb2).trans HRB2.out); generalize ((W2.alloc (.cells ((btw nd.data).map encN).toArray 9)).drewN qd) = W3 at *; have g6 := cell_blk HRB3.out 6; have g5 := cell_blk HRB3.out 5; have f6 := froz_blk HRB3.out 6; simp at g6 g5) | (go_at_call 134; (with_reducible refine (drop_own W2.heap.size nd.data _ (ownsRow_setCell_below HR3.out (a := ⟨wb, 6, none⟩) hwb2 _) HBT.out).mono ?_); rintro e w4 ⟨rfl, hr4, hb4⟩; have HRB4 : Hid (w4.heap[wb]? = _) := Lib.hid ((hb4.block wb hwb2).trans (set_blk (j := 6) HRB3.out _)); have HK4 : Hid (Kept (fun k => k = wb) w w4) := Lib.hid ((HK3.out.trans (Kept.setCell ⟨wb, 6, none⟩ _ rfl)).after (hb4.mono HGE.out)); have HR4 := Lib.hid hr4; clear g6 g5 f6 hr4 hb4; have g5 := cell_blk HRB4.out 5; have f5 := froz_blk HRB4.out 5; simp at g5) | (at_builtin; (refine wpList_app_strs rfl _ _ rfl W2.heap.size _ (names nd.data) ll _ rfl rfl HR4.out (Nat.le_of_lt (HR4.out.lt _ rfl).2) (.slice Al ll.length cl) w.heap.size rfl (HLEFT.out.kept HK4.out HT.out) HLN.out ?_); intro v5 w5 hown5 hg5; obtain ⟨A5, c5, rfl⟩ := ownsRow_len3 hown5; have hb5 := (Below.refl W2.heap.size w4).grown hg5 (Nat.le_of_lt (HR4.out.lt _ rfl).2) (own_ge (Nat.le_refl _) _ _); have HRB5 : Hid (w5.heap[wb]? = _) := Lib.hid ((hb5.block wb hwb2).trans HRB4.out); have HK5 := Lib.hid (HK4.out.after (hb5.mono HGE.out)); have HO5 := Lib.hid hown5; clear g5 f5 hown5 hg5 hb5; have f5 := froz_blk HRB5.out 5; have g1 := cell_blk HRB5.out 1; have g5 := cell_blk HRB5.out 5; simp at g1 g5) | (go_at_call 136; (with_reducible refine (HPX.out _).mono ?_); rintro e w' ⟨rfl, rfl⟩) | (go_at_call 78; (with_reducible refine (HAX.out _ (HK5.out.trans (Kept.setCell ⟨wb, 5, none⟩ _ rfl))).mono ?_); rintro e w7 ⟨rfl, hb7⟩; have rb7 := (hb7.block wb (by simp; exact blk_lt HRB5.out)).trans (set_blk (j := 5) HRB5.out _); simp at rb7; have HRB7 := Lib.hid rb7; clear rb7; have HK57 : Hid (Kept (fun k => k = wb) w5 w7) := Lib.hid ((own_set w5 wb 5 _).trans (kept_of_below hb7)); clear hb7 f5 g1 g5; have e1 := froz_blk HRB7.out 1; have e2 := froz_blk HRB7.out 2; have e3 := froz_blk HRB7.out 3; have e4 := froz_blk HRB7.out 4; have p1 := cell_blk HRB7.out 1; have p2 := cell_blk HRB7.out 2; have p3 := cell_blk HRB7.out 3; have p4 := cell_blk HRB7.out 4; simp at p1 p2 p3 p4))
        have hT5 : OfType w5 wb 133 := OfType.of HRB5.out
        have hST := strs_of_row rfl HO5.out
        simp at hST
        go_ret
        exact ⟨rfl, thru_end HRB7.out HK57.out HK5.out hT5 hST HIX.out⟩
end Go.Proofs.YtpicgkoclbpjpaaGreatDoor
end

section
namespace Go.Proofs.YtpicgkoclbpjpaaGreatDoor
open Go.RowKit Go.Sort Go.Lib Go.Shelf
open PathM TreeM VtM
set_option linter.unusedVariables false
attribute [local go_sem] cell_rg
attribute [local go_sem] cell_off
/-- Going through a link, whatever comes of it. -/
theorem thru_any {k : Nat} {f : Fs} (hf : FsOk k f) (wb db mb : Nat) (ev : Int → Value) (s : WS) (fw : Bool) (dv lv : Value) (w : World) (hw : WalkIn w wb db s fw dv lv) (hid : I64 s.node) (hne : s.dirs ≠ []) (hdl : s.dirs.length ≤ 1000000) (hll : s.left.length ≤ 1000000) (hh : s.hops ≤ 1000)
    (hD : ∀ W, Kept (fun k => k = wb) w W → DiskIn W db mb f.t ev) (hM : ∀ W, Kept (fun k => k = wb) w W → ∃ m, W.cell? ⟨0, 0, none⟩ = some (.int .i64 m)) :
    Calls Tryz.prog 101 #[.pointer (some ⟨wb, 0, none⟩)] w (ThruPost wb db fw (throughS f.t s.dirs s.node s.left s.slash s.hops) w) := by
  have hd := hf.ndata s.node
  unfold throughS
  by_cases h8 : 8 < s.hops + 1
  · dsimp only
    rw [if_pos h8]
    exact through_loop wb db s fw dv lv w hw h8 hh
  · by_cases hlg : longIn (btw (nod f.t.nodes s.node).data) = true
    · dsimp only
      rw [if_neg h8, if_pos hlg]
      exact through_long wb db mb f.t ev s fw dv lv w hw h8 hid hlg (by omega) (by have := btw_len (nod f.t.nodes s.node).data; unfold maxLen; omega) hD hM
    · dsimp only
      rw [if_neg h8, if_neg hlg]
      have hlf : longIn (btw (nod f.t.nodes s.node).data) = false := by simpa using hlg
      exact through_good wb db mb f.t ev s fw dv lv w hw h8 hid hlf hd hne hdl hll hD hM
theorem StrsIn.tail {w : World} {B b o m c : Nat} {l : List Bs} (h : StrsIn w B (.slice (some ⟨b, o, none⟩) (m + 1) c) l) (hc : 1 < c) : StrsIn w B (.slice (some ⟨b, o + 1, none⟩) m (c - 1)) l.tail := by
  obtain ⟨A, c', e, hle, hs⟩ := h
  injection e with e1 e2 e3
  subst e3
  have e2 : m + 1 = l.length := e2
  have hm : l.tail.length = m := by rw [List.length_tail]; omega
  refine ⟨_, _, by rw [hm], by omega, fun hne => ?_⟩
  obtain ⟨b', o', g1, g2, g3, g4⟩ := hs (by rintro rfl; simp at e2)
  rw [← e1] at g1
  injection g1 with g1
  injection g1 with g1 g5
  subst g1; subst g5
  refine ⟨b, o + 1, rfl, g2, g3, fun k hk => ?_⟩
  have := g4 (k + 1) (by omega)
  rw [show o + 1 + k = o + (k + 1) from by omega, this]
  congr 3
  simp [List.getD_eq_getElem?_getD]
theorem StrsIn.tail0 {w : World} {B m : Nat} {A A' : Option Addr} {l : List Bs} (h : StrsIn w B (.slice A (m + 1) 1) l) : m = 0 ∧ StrsIn w B (.slice A' 0 0) l.tail := by
  obtain ⟨A2, c', e, hle, hs⟩ := h
  injection e with e1 e2 e3
  have e2 : m + 1 = l.length := e2
  have e3 : 1 = c' := e3
  have hm : l.tail = [] := List.eq_nil_of_length_eq_zero (by rw [List.length_tail]; omega)
  rw [hm]
  exact ⟨by omega, ⟨A', 0, rfl, Nat.le_refl _, fun h => absurd rfl h⟩⟩
theorem enter_err {t : Tr} {s : WS} {x : Int} (h : enterS t s = .error x) : x = 20 ∨ x = 22 := by
  unfold enterS at h
  split at h
  · injection h with h; exact .inl h.symm
  · split at h
    · injection h with h; exact .inr h.symm
    · split at h <;> cases h
set_option maxRecDepth 100000 in
set_option maxHeartbeats 2000000 in
theorem step_bad {k : Nat} {f : Fs} (hf : FsOk k f) (wb db mb : Nat) (ev : Int → Value) (s : WS) (fw : Bool) (dv lv : Value) (w : World) (hw : WalkIn w wb db s fw dv lv) (hs : WsOk f.t s) (hid : I64 s.node) (hD : DiskIn w db mb f.t ev) {x : Int} (hx : enterS f.t s = .error x) :
    Calls Tryz.prog 79 #[.pointer (some ⟨wb, 0, none⟩)] w fun e w' => e = .returned (.int .i64 x) ∧ Below w.heap.size w w' := by
  have HE := Lib.hid (enter_any wb db mb f.t ev s fw dv lv w hw hD hid (by have := hs.len; omega) hs.ne)
  unfold EnterPost at HE
  rw [hx] at HE
  dsimp only at HE
  have h0 := enter_err hx
  clear hx hD hid hs hw
  rcases h0 with rfl | rfl
  all_goals
    go_enter Tryz.func79, Tryz.ntmps79
    go_wp2_with (go_at_call 98; (with_reducible refine HE.out.mono ?_); rintro e w1 ⟨rfl, hb1⟩)
    go_ret
    exact ⟨rfl, hb1⟩
theorem ThruPost.ret {wb db : Nat} {fw : Bool} {r : Except Int WS} {w w' : World} {e : Ending} (h : ThruPost wb db fw r w e w') : ∃ x, e = .returned (.int .i64 x) := by
  unfold ThruPost at h
  cases r with
  | error x => exact ⟨_, h.1⟩
  | ok s => exact ⟨_, h.1⟩
theorem ThruPost.from {wb db : Nat} {fw : Bool} {r : Except Int WS} {w w4 w' : World} {e : Ending} (h : ThruPost wb db fw r w4 e w') (hk : Kept (fun k => k = wb) w w4) : ThruPost wb db fw r w e w' := by
  unfold ThruPost at h ⊢
  cases r with
  | error x => exact ⟨h.1, hk.trans h.2⟩
  | ok s => exact ⟨h.1, h.2.1, hk.trans h.2.2⟩
/-- The walk behind a look: the place and the names that are left lie in it. -/
theorem step_in {w2 : World} {wb db : Nat} {c1 c2 c3 c4 c5 : Value} {sl fw : Bool} {hops : Nat} (h : w2.heap[wb]? = some (.cells #[.iface 31 (.pointer (some ⟨db, 0, none⟩)), c1, c2, c3, c4, c5, .bool sl, .bool fw, .int .i64 hops] 133 (0, 0)))
    {dv lv : Value} {ds : List Int} {l : List Bs} (hI : IntsIn w2 w2.heap.size dv ds) (hS : StrsIn w2 w2.heap.size lv l) (name : Bs) (node : Int) :
    WalkIn (((((w2.setCell ⟨wb, 1, none⟩ dv).setCell ⟨wb, 2, none⟩ (.string (nm name))).setCell ⟨wb, 3, none⟩ (.int .i64 node)).setCell ⟨wb, 4, none⟩ (.bool false)).setCell ⟨wb, 5, none⟩ lv) wb db ⟨ds, name, node, l, sl, hops⟩ fw dv lv ∧
    Kept (fun k => k = wb) w2 (((((w2.setCell ⟨wb, 1, none⟩ dv).setCell ⟨wb, 2, none⟩ (.string (nm name))).setCell ⟨wb, 3, none⟩ (.int .i64 node)).setCell ⟨wb, 4, none⟩ (.bool false)).setCell ⟨wb, 5, none⟩ lv) := by
  have hT : OfType w2 wb 133 := OfType.of h
  have hk := (at_kept (Kept.refl (fun k => k = wb) w2) dv (.string (nm name)) (.int .i64 node) (.bool false)).trans (own_set _ wb 5 lv)
  refine ⟨⟨?_, hI.kept hk hT, (hS.kept hk hT).more hk.size⟩, hk⟩
  have := set_blk (j := 5) (at_set h dv (.string (nm name)) (.int .i64 node) (.bool false)) lv
  simpa using this
set_option maxRecDepth 100000 in
set_option maxHeartbeats 4000000 in
theorem step_good {k : Nat} {f : Fs} (hf : FsOk k f) (wb db mb : Nat) (ev : Int → Value) (s : WS) (fw : Bool) (dv lv : Value) (w : World) (hw : WalkIn w wb db s fw dv lv) (hs : WsOk f.t s) (hu : Full s) (hl : s.left ≠ []) (hD : ∀ W, Kept (fun k => k = wb) w W → DiskIn W db mb f.t ev) (hM : ∀ W, Kept (fun k => k = wb) w W → ∃ m, W.cell? ⟨0, 0, none⟩ = some (.int .i64 m)) {ds : List Int} (hx : enterS f.t s = .ok ds) :
    Calls Tryz.prog 79 #[.pointer (some ⟨wb, 0, none⟩)] w (ThruPost wb db fw (stepS f.t fw s) w) := by
  have hid : I64 s.node := by
    rcases hs.node with e | e
    · rw [e]; exact i64_0
    · exact (hf.nid e).1
  have hlen := hs.len
  have hlf : s.left.length ≤ 1000000 := by unfold muS at hlen; omega
  have HE := Lib.hid (enter_any wb db mb f.t ev s fw dv lv w hw (hD w (Kept.refl _ _)) hid (by omega) hs.ne)
  unfold EnterPost at HE
  rw [hx] at HE
  dsimp only at HE
  obtain ⟨h1, h2, h3, -⟩ := enter_ok hs hx
  obtain ⟨g1, g2, g3, g4, -, -⟩ := look_ok hf h1 h2 (s.left.headD [])
  have hids : ∀ d ∈ ds, I64 d := fun d hd => hf.dir64 (h2 d hd)
  have hlk : ∀ W v1, Below w.heap.size w W → WalkIn W wb db s fw dv lv → IntsIn W W.heap.size v1 ds → Calls Tryz.prog 99 #[.pointer (some ⟨wb, 0, none⟩), v1, .string (nm (s.left.headD []))] W (PlacePost ⟨(lookS f.t ds (s.left.headD [])).1, (lookS f.t ds (s.left.headD [])).2.1, (lookS f.t ds (s.left.headD [])).2.2, false⟩ W) := fun W v1 hW hw hI => look_any wb db mb f.t ev s fw dv lv v1 ds (nm (s.left.headD [])) W hw (hD W (kept_of_below hW)) hI hids h1 (by omega) hf.nsorted
  unfold stepS
  rw [hx]
  dsimp only
  generalize lookS f.t ds (s.left.headD []) = p at *
  have hp64 : I64 p.2.2 := by
    rcases g4 with e | e
    · rw [e]; exact i64_0
    · exact (hf.nid e).1
  have HAT := Lib.hid (fun W dv' lv' (hW : Kept (fun k => k = wb) w W) (hw : WalkIn W wb db ⟨p.1, p.2.1, p.2.2, s.left.tail, s.slash, s.hops⟩ fw dv' lv') => atLink_any wb db mb f.t ev ⟨p.1, p.2.1, p.2.2, s.left.tail, s.slash, s.hops⟩ fw dv' lv' W hw (hD W hW) hp64)
  have HTH := Lib.hid (fun W dv' lv' (hW : Kept (fun k => k = wb) w W) (hw : WalkIn W wb db ⟨p.1, p.2.1, p.2.2, s.left.tail, s.slash, s.hops⟩ fw dv' lv') => thru_any hf wb db mb ev ⟨p.1, p.2.1, p.2.2, s.left.tail, s.slash, s.hops⟩ fw dv' lv' W hw hp64 g1 (by dsimp only; omega) (by dsimp only; rw [List.length_tail]; omega) (by dsimp only; have := hs.hops; omega) (fun W2 h2 => hD W2 (hW.trans h2)) (fun W2 h2 => hM W2 (hW.trans h2)))
  obtain ⟨bl, ol, cl, hlv, hcl, hbl, htl, hcells⟩ := hw.left.cases hl
  subst hlv
  have hhd : s.left.getD 0 [] = s.left.headD [] := by cases s.left <;> rfl
  have x0 := hcells 0 (List.length_pos_iff.2 hl)
  rw [Nat.add_zero, hhd] at x0
  generalize s.left.headD [] = hd at *
  have hlt := blk_lt hw.blk
  obtain ⟨m, hm⟩ : ∃ m, s.left.length = m + 1 := ⟨s.left.length - 1, by have := List.length_pos_iff.2 hl; omega⟩
  rw [hm] at hw hlk hcl
  have HLK := Lib.hid hlk
  have HW := Lib.hid hw
  have H1 := Lib.hid h1
  unfold BoolPost at HAT
  by_cases hc1 : cl = 1
  · subst hc1
    obtain ⟨hm0, htl2⟩ := StrsIn.tail0 (A' := some ⟨bl, ol, none⟩) hw.left
    subst hm0
    have HTL := Lib.hid htl2
    clear htl2 hlk h1 h2 h3 g1 g2 g3 g4 hids hp64 hlen hlf hid hs hu hl hD hM hx hcells hhd hm hcl htl hw
    by_cases hat : atLinkS f.t fw p.2.2 s.left.tail s.slash = true
    · rw [if_pos hat]
      rw [hat] at HAT
      clear hat
      go_enter Tryz.func79, Tryz.ntmps79
      go_wp2_with (first | (go_at_call 98; (with_reducible refine HE.out.mono ?_); rintro e w1 ⟨v1, rfl, hi1, hb1⟩; obtain ⟨b1, o1, c1, rfl, -⟩ := hi1.cases H1.out; have HI1 := Lib.hid hi1; have HB1 := Lib.hid hb1; have HW1 := Lib.hid (HW.out.below hb1); have x1 := (hb1.cell (p := ⟨bl, ol, none⟩) hbl).trans x0; clear hi1 hb1; have k5 := cell_blk HW1.out.blk 5; simp at k5) | (go_at_call 99; (with_reducible refine (HLK.out _ _ HB1.out HW1.out HI1.out).mono ?_); rintro e w2 ⟨v2, rfl, hi2, hb2⟩; unfold plV; obtain ⟨A2, c2, rfl⟩ := hi2.len; have rb2 := (hb2.block wb (blk_lt HW1.out.blk)).trans HW1.out.blk; have HRB2 := Lib.hid rb2; have HI2 := Lib.hid hi2; have HB2 := Lib.hid (HB1.out.trans (hb2.mono HB1.out.size)); clear hi2 hb2 rb2 k5; have k1 := cell_blk HRB2.out 1; have k2 := cell_blk HRB2.out 2; have k3 := cell_blk HRB2.out 3; have k4 := cell_blk HRB2.out 4; have k5 := cell_blk HRB2.out 5; simp at k1 k2 k3 k4 k5; have f1 := froz_blk HRB2.out 1; have f2 := froz_blk HRB2.out 2; have f3 := froz_blk HRB2.out 3; have f4 := froz_blk HRB2.out 4; have f5 := froz_blk HRB2.out 5) | (go_at_call 100; have hsi := step_in HRB2.out HI2.out ((HTL.out.below HB2.out).more HB2.out.size) p.2.1 p.2.2; have HSI := Lib.hid hsi.1; have HKI := Lib.hid ((kept_of_below HB2.out).trans hsi.2); clear hsi; (with_reducible refine (HAT.out _ _ _ HKI.out HSI.out).mono ?_); rintro e w4 ⟨rfl, hb4⟩; have HK4 := Lib.hid (HKI.out.trans (kept_of_below hb4)); have HW4 := Lib.hid (HSI.out.below hb4); clear hb4) | (go_at_call 101; (with_reducible refine (HTH.out _ _ _ HK4.out HW4.out).mono ?_); rintro e w5 h5; obtain ⟨x, rfl⟩ := h5.ret; have H5 := Lib.hid (h5.from HK4.out); clear h5))
      go_ret
      exact H5.out
    · rw [if_neg hat]
      rw [show atLinkS f.t fw p.2.2 s.left.tail s.slash = false from by simpa using hat] at HAT
      clear hat
      go_enter Tryz.func79, Tryz.ntmps79
      go_wp2_with (first | (go_at_call 98; (with_reducible refine HE.out.mono ?_); rintro e w1 ⟨v1, rfl, hi1, hb1⟩; obtain ⟨b1, o1, c1, rfl, -⟩ := hi1.cases H1.out; have HI1 := Lib.hid hi1; have HB1 := Lib.hid hb1; have HW1 := Lib.hid (HW.out.below hb1); have x1 := (hb1.cell (p := ⟨bl, ol, none⟩) hbl).trans x0; clear hi1 hb1; have k5 := cell_blk HW1.out.blk 5; simp at k5) | (go_at_call 99; (with_reducible refine (HLK.out _ _ HB1.out HW1.out HI1.out).mono ?_); rintro e w2 ⟨v2, rfl, hi2, hb2⟩; unfold plV; obtain ⟨A2, c2, rfl⟩ := hi2.len; have rb2 := (hb2.block wb (blk_lt HW1.out.blk)).trans HW1.out.blk; have HRB2 := Lib.hid rb2; have HI2 := Lib.hid hi2; have HB2 := Lib.hid (HB1.out.trans (hb2.mono HB1.out.size)); clear hi2 hb2 rb2 k5; have k1 := cell_blk HRB2.out 1; have k2 := cell_blk HRB2.out 2; have k3 := cell_blk HRB2.out 3; have k4 := cell_blk HRB2.out 4; have k5 := cell_blk HRB2.out 5; simp at k1 k2 k3 k4 k5; have f1 := froz_blk HRB2.out 1; have f2 := froz_blk HRB2.out 2; have f3 := froz_blk HRB2.out 3; have f4 := froz_blk HRB2.out 4; have f5 := froz_blk HRB2.out 5) | (go_at_call 100; have hsi := step_in HRB2.out HI2.out ((HTL.out.below HB2.out).more HB2.out.size) p.2.1 p.2.2; have HSI := Lib.hid hsi.1; have HKI := Lib.hid ((kept_of_below HB2.out).trans hsi.2); clear hsi; (with_reducible refine (HAT.out _ _ _ HKI.out HSI.out).mono ?_); rintro e w4 ⟨rfl, hb4⟩; have HK4 := Lib.hid (HKI.out.trans (kept_of_below hb4)); have HW4 := Lib.hid (HSI.out.below hb4); clear hb4))
      go_ret
      exact ⟨rfl, ⟨_, _, HW4.out⟩, HK4.out⟩
  · obtain ⟨c', rfl⟩ : ∃ c', cl = c' + 1 := ⟨cl - 1, by omega⟩
    have htl2 := StrsIn.tail hw.left (by omega)
    rw [Nat.add_sub_cancel] at htl2
    have hc2 : 0 < c' := by omega
    have HTL := Lib.hid htl2
    have hmc : (m : Int) ≤ (c' : Int) := by omega
    clear htl2 hlk h1 h2 h3 g1 g2 g3 g4 hids hp64 hlen hlf hid hs hu hl hD hM hx hcells hhd hm hcl htl hw hc1
    by_cases hat : atLinkS f.t fw p.2.2 s.left.tail s.slash = true
    · rw [if_pos hat]
      rw [hat] at HAT
      clear hat
      go_enter Tryz.func79, Tryz.ntmps79
      go_wp2_with (first | (go_at_call 98; (with_reducible refine HE.out.mono ?_); rintro e w1 ⟨v1, rfl, hi1, hb1⟩; obtain ⟨b1, o1, c1, rfl, -⟩ := hi1.cases H1.out; have HI1 := Lib.hid hi1; have HB1 := Lib.hid hb1; have HW1 := Lib.hid (HW.out.below hb1); have x1 := (hb1.cell (p := ⟨bl, ol, none⟩) hbl).trans x0; clear hi1 hb1; have k5 := cell_blk HW1.out.blk 5; simp at k5) | (go_at_call 99; (with_reducible refine (HLK.out _ _ HB1.out HW1.out HI1.out).mono ?_); rintro e w2 ⟨v2, rfl, hi2, hb2⟩; unfold plV; obtain ⟨A2, c2, rfl⟩ := hi2.len; have rb2 := (hb2.block wb (blk_lt HW1.out.blk)).trans HW1.out.blk; have HRB2 := Lib.hid rb2; have HI2 := Lib.hid hi2; have HB2 := Lib.hid (HB1.out.trans (hb2.mono HB1.out.size)); clear hi2 hb2 rb2 k5; have k1 := cell_blk HRB2.out 1; have k2 := cell_blk HRB2.out 2; have k3 := cell_blk HRB2.out 3; have k4 := cell_blk HRB2.out 4; have k5 := cell_blk HRB2.out 5; simp at k1 k2 k3 k4 k5; have f1 := froz_blk HRB2.out 1; have f2 := froz_blk HRB2.out 2; have f3 := froz_blk HRB2.out 3; have f4 := froz_blk HRB2.out 4; have f5 := froz_blk HRB2.out 5) | (go_at_call 100; have hsi := step_in HRB2.out HI2.out ((HTL.out.below HB2.out).more HB2.out.size) p.2.1 p.2.2; have HSI := Lib.hid hsi.1; have HKI := Lib.hid ((kept_of_below HB2.out).trans hsi.2); clear hsi; (with_reducible refine (HAT.out _ _ _ HKI.out HSI.out).mono ?_); rintro e w4 ⟨rfl, hb4⟩; have HK4 := Lib.hid (HKI.out.trans (kept_of_below hb4)); have HW4 := Lib.hid (HSI.out.below hb4); clear hb4) | (go_at_call 101; (with_reducible refine (HTH.out _ _ _ HK4.out HW4.out).mono ?_); rintro e w5 h5; obtain ⟨x, rfl⟩ := h5.ret; have H5 := Lib.hid (h5.from HK4.out); clear h5))
      go_ret
      exact H5.out
    · rw [if_neg hat]
      rw [show atLinkS f.t fw p.2.2 s.left.tail s.slash = false from by simpa using hat] at HAT
      clear hat
      go_enter Tryz.func79, Tryz.ntmps79
      go_wp2_with (first | (go_at_call 98; (with_reducible refine HE.out.mono ?_); rintro e w1 ⟨v1, rfl, hi1, hb1⟩; obtain ⟨b1, o1, c1, rfl, -⟩ := hi1.cases H1.out; have HI1 := Lib.hid hi1; have HB1 := Lib.hid hb1; have HW1 := Lib.hid (HW.out.below hb1); have x1 := (hb1.cell (p := ⟨bl, ol, none⟩) hbl).trans x0; clear hi1 hb1; have k5 := cell_blk HW1.out.blk 5; simp at k5) | (go_at_call 99; (with_reducible refine (HLK.out _ _ HB1.out HW1.out HI1.out).mono ?_); rintro e w2 ⟨v2, rfl, hi2, hb2⟩; unfold plV; obtain ⟨A2, c2, rfl⟩ := hi2.len; have rb2 := (hb2.block wb (blk_lt HW1.out.blk)).trans HW1.out.blk; have HRB2 := Lib.hid rb2; have HI2 := Lib.hid hi2; have HB2 := Lib.hid (HB1.out.trans (hb2.mono HB1.out.size)); clear hi2 hb2 rb2 k5; have k1 := cell_blk HRB2.out 1; have k2 := cell_blk HRB2.out 2; have k3 := cell_blk HRB2.out 3; have k4 := cell_blk HRB2.out 4; have k5 := cell_blk HRB2.out 5; simp at k1 k2 k3 k4 k5; have f1 := froz_blk HRB2.out 1; have f2 := froz_blk HRB2.out 2; have f3 := froz_blk HRB2.out 3; have f4 := froz_blk HRB2.out 4; have f5 := froz_blk HRB2.out 5) | (go_at_call 100; have hsi := step_in HRB2.out HI2.out ((HTL.out.below HB2.out).more HB2.out.size) p.2.1 p.2.2; have HSI := Lib.hid hsi.1; have HKI := Lib.hid ((kept_of_below HB2.out).trans hsi.2); clear hsi; (with_reducible refine (HAT.out _ _ _ HKI.out HSI.out).mono ?_); rintro e w4 ⟨rfl, hb4⟩; have HK4 := Lib.hid (HKI.out.trans (kept_of_below hb4)); have HW4 := Lib.hid (HSI.out.below hb4); clear hb4))
      go_ret
      exact ⟨rfl, ⟨_, _, HW4.out⟩, HK4.out⟩
/-- A step of a path. -/
theorem step_any {k : Nat} {f : Fs} (hf : FsOk k f) (wb db mb : Nat) (ev : Int → Value) (s : WS) (fw : Bool) (dv lv : Value) (w : World) (hw : WalkIn w wb db s fw dv lv) (hs : WsOk f.t s) (hu : Full s) (hl : s.left ≠ []) (hD : ∀ W, Kept (fun k => k = wb) w W → DiskIn W db mb f.t ev) (hM : ∀ W, Kept (fun k => k = wb) w W → ∃ m, W.cell? ⟨0, 0, none⟩ = some (.int .i64 m)) :
    Calls Tryz.prog 79 #[.pointer (some ⟨wb, 0, none⟩)] w (ThruPost wb db fw (stepS f.t fw s) w) := by
  have hid : I64 s.node := by
    rcases hs.node with e | e
    · rw [e]; exact i64_0
    · exact (hf.nid e).1
  cases hx : enterS f.t s with
  | ok ds => exact step_good hf wb db mb ev s fw dv lv w hw hs hu hl hD hM hx
  | error x =>
    have h := step_bad hf wb db mb ev s fw dv lv w hw hs hid (hD w (Kept.refl _ _)) hx
    unfold stepS
    rw [hx]
    exact h.mono fun e w' h => ⟨h.1, kept_of_below h.2⟩
end Go.Proofs.YtpicgkoclbpjpaaGreatDoor
end

section
namespace Go.Proofs.YtpicgkoclbpjpaaGreatDoor
open Go.RowKit Go.Sort Go.Lib Go.Shelf
open PathM TreeM VtM
set_option linter.unusedVariables false
attribute [local go_sem] cell_rg
attribute [local go_sem] cell_off
theorem cell_far (w : World) (b i c j : Nat) (u : Value) (h : b ≠ c) : (w.setCell ⟨b, i, none⟩ u).cell? ⟨c, j, none⟩ = w.cell? ⟨c, j, none⟩ := World.cell?_of_block (Below.heap_setCell _ _ _ _ (fun e => h e.symm))
attribute [local go_sem] cell_far
theorem four_kept (W : World) (b : Nat) (v0 v1 v2 v3 : Value) : Kept (fun k => k = b) W ((((W.setCell ⟨b, 0, none⟩ v0).setCell ⟨b, 1, none⟩ v1).setCell ⟨b, 2, none⟩ v2).setCell ⟨b, 3, none⟩ v3) :=
  (((own_set _ b 0 v0).trans (own_set _ b 1 v1)).trans (own_set _ b 2 v2)).trans (own_set _ b 3 v3)
/-- The place that was found, laid into the result. -/
theorem found_end {w wr : World} {wb rb db : Nat} {s : WS} {fw : Bool} {dv lv : Value} {z0 z1 z2 z3 : Value} (hw : WalkIn wr wb db s fw dv lv) (hr : wr.heap[rb]? = some (.cells #[z0, z1, z2, z3] 92 (0, 0))) (hb : Below w.heap.size w wr) (hrb : w.heap.size ≤ rb) (hwb : w.heap.size ≤ wb) (hne : wb ≠ rb) (u v0 v1 v2 v3 : Value) :
    (((((wr.setCell ⟨wb, 4, none⟩ u).setCell ⟨rb, 0, none⟩ v0).setCell ⟨rb, 1, none⟩ v1).setCell ⟨rb, 2, none⟩ v2).setCell ⟨rb, 3, none⟩ v3).heap[rb]? = some (.cells #[v0, v1, v2, v3] 92 (0, 0)) ∧
    IntsIn (((((wr.setCell ⟨wb, 4, none⟩ u).setCell ⟨rb, 0, none⟩ v0).setCell ⟨rb, 1, none⟩ v1).setCell ⟨rb, 2, none⟩ v2).setCell ⟨rb, 3, none⟩ v3) (((((wr.setCell ⟨wb, 4, none⟩ u).setCell ⟨rb, 0, none⟩ v0).setCell ⟨rb, 1, none⟩ v1).setCell ⟨rb, 2, none⟩ v2).setCell ⟨rb, 3, none⟩ v3).heap.size dv s.dirs ∧
    Below w.heap.size w (((((wr.setCell ⟨wb, 4, none⟩ u).setCell ⟨rb, 0, none⟩ v0).setCell ⟨rb, 1, none⟩ v1).setCell ⟨rb, 2, none⟩ v2).setCell ⟨rb, 3, none⟩ v3) := by
  have h1 := (Below.heap_setCell wr ⟨wb, 4, none⟩ u rb (fun e => hne e.symm)).trans hr
  have hk1 := own_set wr wb 4 u
  have hk2 := four_kept (wr.setCell ⟨wb, 4, none⟩ u) rb v0 v1 v2 v3
  have hk : Kept (fun k => k = wb ∨ k = rb) wr _ := (hk1.mono (fun k e => .inl e)).trans (hk2.mono (fun k e => .inr e))
  refine ⟨four_set h1 v0 v1 v2 v3, (hw.dirs.keep fun b hb ht => hk.block b hb ?_).more hk.size, hb.trans (hk.below hb.size ?_)⟩
  · rintro (rfl | rfl)
    · exact OfType.ne ht (OfType.of hw.blk) (by decide) rfl
    · exact OfType.ne ht (OfType.of hr) (by decide) rfl
  · rintro k (rfl | rfl)
    · exact hwb
    · exact hrb
theorem nine_keep {W : World} {b fb i : Nat} {v v0 v1 v2 v3 v4 v5 v6 v7 v8 : Value} (h : W.cell? ⟨fb, i, none⟩ = some v) (hb : fb ≠ b) :
    (((((((((W.setCell ⟨b, 0, none⟩ v0).setCell ⟨b, 1, none⟩ v1).setCell ⟨b, 2, none⟩ v2).setCell ⟨b, 3, none⟩ v3).setCell ⟨b, 4, none⟩ v4).setCell ⟨b, 5, none⟩ v5).setCell ⟨b, 6, none⟩ v6).setCell ⟨b, 7, none⟩ v7).setCell ⟨b, 8, none⟩ v8).cell? ⟨fb, i, none⟩ = some v := by
  have hn : ∀ (W : World) j u, (W.setCell ⟨b, j, none⟩ u).cell? ⟨fb, i, none⟩ = W.cell? ⟨fb, i, none⟩ := fun W j u => World.cell?_of_block (Below.heap_setCell _ _ _ _ hb)
  simp only [hn, h]
theorem nine_set {W : World} {b : Nat} {z0 z1 z2 z3 z4 z5 z6 z7 z8 : Value} {T : TypeId} (h : W.heap[b]? = some (.cells #[z0, z1, z2, z3, z4, z5, z6, z7, z8] T (0, 0))) (v0 v1 v2 v3 v4 v5 v6 v7 v8 : Value) :
    (((((((((W.setCell ⟨b, 0, none⟩ v0).setCell ⟨b, 1, none⟩ v1).setCell ⟨b, 2, none⟩ v2).setCell ⟨b, 3, none⟩ v3).setCell ⟨b, 4, none⟩ v4).setCell ⟨b, 5, none⟩ v5).setCell ⟨b, 6, none⟩ v6).setCell ⟨b, 7, none⟩ v7).setCell ⟨b, 8, none⟩ v8).heap[b]? = some (.cells #[v0, v1, v2, v3, v4, v5, v6, v7, v8] T (0, 0)) := by
  have := set_blk (j := 8) (set_blk (j := 7) (set_blk (j := 6) (set_blk (j := 5) (set_blk (j := 4) (set_blk (j := 3) (set_blk (j := 2) (set_blk (j := 1) (set_blk (j := 0) h v0) v1) v2) v3) v4) v5) v6) v7) v8
  simpa using this
theorem nine_kept (W : World) (b : Nat) (v0 v1 v2 v3 v4 v5 v6 v7 v8 : Value) : Kept (fun k => k = b) W
    (((((((((W.setCell ⟨b, 0, none⟩ v0).setCell ⟨b, 1, none⟩ v1).setCell ⟨b, 2, none⟩ v2).setCell ⟨b, 3, none⟩ v3).setCell ⟨b, 4, none⟩ v4).setCell ⟨b, 5, none⟩ v5).setCell ⟨b, 6, none⟩ v6).setCell ⟨b, 7, none⟩ v7).setCell ⟨b, 8, none⟩ v8) :=
  ((((((((own_set _ b 0 v0).trans (own_set _ b 1 v1)).trans (own_set _ b 2 v2)).trans (own_set _ b 3 v3)).trans (own_set _ b 4 v4)).trans (own_set _ b 5 v5)).trans (own_set _ b 6 v6)).trans (own_set _ b 7 v7)).trans (own_set _ b 8 v8)
/-- A path that is being gone, between two of its steps. -/
def Going (f : Fs) (wb db : Nat) (fw : Bool) (R : Except Int WS) (wc : World) (g : Nat) (s10 : Value) (wr : World) : Prop :=
  Kept (fun k => k = wb) wc wr ∧ ((∃ x : Int, x ≠ 0 ∧ s10 = .int .i64 x ∧ R = .error x) ∨ (∃ (s : WS) (dv lv : Value) (n : Nat), s10 = .int .i64 0 ∧ WsOk f.t s ∧ Full s ∧ WalkIn wr wb db s fw dv lv ∧ runS f.t fw n s = R ∧ muS s ≤ n ∧ g = muS s + 1))
/-- What find answers. -/
def GonePost (r : Except Int At) (w : World) (e : Ending) (w' : World) : Prop :=
  match r with
  | .error x => e = .returned (.tuple #[.agg #[.slice none 0 0, .string { data := #[] }, .int .i64 0, .bool false], .int .i64 x]) ∧ x ≠ 0 ∧ Below w.heap.size w w'
  | .ok a => ∃ v, e = .returned (.tuple #[plV v a, .int .i64 0]) ∧ IntsIn w' w'.heap.size v a.dirs ∧ Below w.heap.size w w'
/-- How a path that was begun goes on. -/
def beginR (t : Tr) (p : Bs) (fw : Bool) : Except Int WS := if partsE p ≠ 0 then .error (partsE p) else runS t fw 40000 (startS p)
theorem find_begin (t : Tr) (p : Bs) (fw : Bool) : findS t p fw = (match beginR t p fw with | .error e => .error e | .ok s => doneS t s) := by
  unfold findS beginR
  split <;> rfl
theorem ints_one {W : World} {b : Nat} (h : W.heap[b]? = some (.cells #[.int .i64 1] 3 (0, 0))) : IntsIn W W.heap.size (.slice (some ⟨b, 0, none⟩) 1 1) [1] :=
  ⟨_, _, rfl, Nat.le_refl _, fun _ => ⟨b, 0, rfl, blk_lt h, ⟨_, _, h⟩, fun k hk => by
    obtain rfl : k = 0 := by simpa using hk
    have := cell_blk h 0
    simpa using this⟩⟩
set_option maxRecDepth 100000 in
set_option maxHeartbeats 4000000 in
theorem ffind_any {k : Nat} {f : Fs} (hf : FsOk k f) (fb db mb : Nat) (p : ByteArray) (fw : Bool) (w : World) (h : Live w fb db mb f) (hM : ∃ m, w.cell? ⟨0, 0, none⟩ = some (.int .i64 m)) (hp : p.size ≤ maxLen) :
    Calls Tryz.prog 43 #[.pointer (some ⟨fb, 0, none⟩), .string p, .bool fw] w (GonePost (findS f.t p.data.toList fw) w) := by
  rw [find_begin]
  obtain ⟨R, hR⟩ : ∃ R, beginR f.t p.data.toList fw = R := ⟨_, rfl⟩
  rw [hR]
  have HR := Lib.hid hR
  clear hR
  have k0 := cell_blk h.files 0
  simp at k0
  have hlt := blk_lt h.files
  have hb0 := (Below.refl w.heap.size w).alloc (Nat.le_refl _) (.cells #[.slice none 0 0, .string { data := #[] }, .int .i64 0, .bool false] 92)
  have HB0 := Lib.hid hb0
  have HP := Lib.hid (parts_any p (w.alloc (.cells #[.slice none 0 0, .string { data := #[] }, .int .i64 0, .bool false] 92)) hp)
  unfold PartsPost at HP
  have RB0 := heap_alloc_new w (.cells #[.slice none 0 0, .string { data := #[] }, .int .i64 0, .bool false] 92)
  have HRB0 := Lib.hid RB0
  have HL := Lib.hid h
  have HM := Lib.hid hM
  clear RB0 hb0 h hM hp
  go_enter Tryz.func43, Tryz.ntmps43
  go_wp2_with (go_at_call 77; (with_reducible refine HP.out.mono ?_); rintro e w1 ⟨lv, rfl, ho1, hb1⟩; obtain ⟨Al, cl, rfl⟩ := ownsRow_len3 ho1; have HO1 := Lib.hid ho1; have HB1 := Lib.hid (HB0.out.trans (hb1.mono (by simp))); have HRB1 := Lib.hid ((hb1.block w.heap.size (by simp)).trans HRB0.out); clear ho1 hb1)
  have c0 := (HB1.out.cell (p := ⟨fb, 0, none⟩) hlt).trans k0
  have hlt1 : fb < w1.heap.size := Nat.lt_of_lt_of_le hlt HB1.out.size
  obtain ⟨L, hL⟩ : ∃ L, partsL p.data.toList = L := ⟨_, rfl⟩
  obtain ⟨B, hB⟩ : ∃ B, partsB p.data.toList = B := ⟨_, rfl⟩
  rw [hL] at HO1 ⊢
  rw [hB]
  have HLL := Lib.hid hL
  have HBB := Lib.hid hB
  clear hL hB
  obtain ⟨pe, hpe⟩ : ∃ pe, (partsE p.data.toList : Int) = pe := ⟨_, rfl⟩
  rw [hpe]
  have HPE := Lib.hid hpe
  clear hpe
  go_cut [11] from 18 to 27 (fun s11 wx => ∃ wb : Nat, s11 = .pointer (some ⟨wb, 0, none⟩) ∧ w1.heap.size ≤ wb ∧ Below w1.heap.size w1 wx ∧ ∃ dv, wx.heap[wb]? = some (.cells #[.iface 31 (.pointer (some ⟨db, 0, none⟩)), dv, .string (nm []), .int .i64 1, .bool false, .slice Al L.length cl, .bool B, .bool fw, .int .i64 0] 133 (0, 0)) ∧ IntsIn wx wx.heap.size dv [1])
  case first =>
    have HD0 := Lib.hid (Below.refl w1.heap.size w1).drew
    have HD1 : Hid (Below w1.heap.size w1 (w1.alloc (.cells #[.int .i64 1] 3)).drew) := Lib.hid ((Below.refl _ _).alloc (Nat.le_refl _) _).drew
    have HD2 : Hid (Below w1.heap.size w1 ((w1.alloc (.cells #[.int .i64 1] 3)).alloc (.cells #[.nilIface, .slice none 0 0, .string { data := #[] }, .int .i64 0, .bool false, .slice none 0 0, .bool false, .bool false, .int .i64 0] 133)).drew) := Lib.hid (((Below.refl _ _).alloc (Nat.le_refl _) _).alloc (by simp) _).drew
    have HD3 : Hid (Below w1.heap.size w1 (w1.alloc (.cells #[.nilIface, .slice none 0 0, .string { data := #[] }, .int .i64 0, .bool false, .slice none 0 0, .bool false, .bool false, .int .i64 0] 133)).drew) := Lib.hid ((Below.refl _ _).alloc (Nat.le_refl _) _).drew
    have HD4 : Hid (Below w1.heap.size w1 ((w1.alloc (.cells #[.nilIface, .slice none 0 0, .string { data := #[] }, .int .i64 0, .bool false, .slice none 0 0, .bool false, .bool false, .int .i64 0] 133)).alloc (.cells #[.int .i64 1] 3)).drew) := Lib.hid (((Below.refl _ _).alloc (Nat.le_refl _) _).alloc (by simp) _).drew
    have S0 := Lib.hid ((HD0.out.cell (p := ⟨fb, 0, none⟩) hlt1).trans c0)
    have S1 := Lib.hid ((HD1.out.cell (p := ⟨fb, 0, none⟩) hlt1).trans c0)
    have S2 := Lib.hid ((HD2.out.cell (p := ⟨fb, 0, none⟩) hlt1).trans c0)
    have S3 := Lib.hid ((HD3.out.cell (p := ⟨fb, 0, none⟩) hlt1).trans c0)
    have S4 := Lib.hid ((HD4.out.cell (p := ⟨fb, 0, none⟩) hlt1).trans c0)
    have I1 : ((w1.alloc (.cells #[.int .i64 1] 3)).drew).heap[w1.heap.size]? = some (.cells #[.int .i64 1] 3) := heap_alloc_new w1 (.cells #[.int .i64 1] 3)
    have I2 : (((w1.alloc (.cells #[.int .i64 1] 3)).alloc (.cells #[.nilIface, .slice none 0 0, .string { data := #[] }, .int .i64 0, .bool false, .slice none 0 0, .bool false, .bool false, .int .i64 0] 133)).drew).heap[w1.heap.size]? = some (.cells #[.int .i64 1] 3) := (heap_alloc_old (w1.alloc (.cells #[.int .i64 1] 3)) (.cells #[.nilIface, .slice none 0 0, .string { data := #[] }, .int .i64 0, .bool false, .slice none 0 0, .bool false, .bool false, .int .i64 0] 133) (by simp)).trans I1
    have I4 : (((w1.alloc (.cells #[.nilIface, .slice none 0 0, .string { data := #[] }, .int .i64 0, .bool false, .slice none 0 0, .bool false, .bool false, .int .i64 0] 133)).alloc (.cells #[.int .i64 1] 3)).drew).heap[w1.heap.size + 1]? = some (.cells #[.int .i64 1] 3) := by
      have := heap_alloc_new (w1.alloc (.cells #[.nilIface, .slice none 0 0, .string { data := #[] }, .int .i64 0, .bool false, .slice none 0 0, .bool false, .bool false, .int .i64 0] 133)) (.cells #[.int .i64 1] 3)
      rw [show (w1.alloc (.cells #[.nilIface, .slice none 0 0, .string { data := #[] }, .int .i64 0, .bool false, .slice none 0 0, .bool false, .bool false, .int .i64 0] 133)).heap.size = w1.heap.size + 1 from by simp] at this
      exact this
    have Z2 : (((w1.alloc (.cells #[.int .i64 1] 3)).alloc (.cells #[.nilIface, .slice none 0 0, .string { data := #[] }, .int .i64 0, .bool false, .slice none 0 0, .bool false, .bool false, .int .i64 0] 133)).drew).heap[w1.heap.size + 1]? = some (.cells #[.nilIface, .slice none 0 0, .string { data := #[] }, .int .i64 0, .bool false, .slice none 0 0, .bool false, .bool false, .int .i64 0] 133) := by
      have := heap_alloc_new (w1.alloc (.cells #[.int .i64 1] 3)) (.cells #[.nilIface, .slice none 0 0, .string { data := #[] }, .int .i64 0, .bool false, .slice none 0 0, .bool false, .bool false, .int .i64 0] 133)
      rw [show (w1.alloc (.cells #[.int .i64 1] 3)).heap.size = w1.heap.size + 1 from by simp] at this
      exact this
    have Z4 : (((w1.alloc (.cells #[.nilIface, .slice none 0 0, .string { data := #[] }, .int .i64 0, .bool false, .slice none 0 0, .bool false, .bool false, .int .i64 0] 133)).alloc (.cells #[.int .i64 1] 3)).drew).heap[w1.heap.size]? = some (.cells #[.nilIface, .slice none 0 0, .string { data := #[] }, .int .i64 0, .bool false, .slice none 0 0, .bool false, .bool false, .int .i64 0] 133) := (heap_alloc_old (w1.alloc (.cells #[.nilIface, .slice none 0 0, .string { data := #[] }, .int .i64 0, .bool false, .slice none 0 0, .bool false, .bool false, .int .i64 0] 133)) (.cells #[.int .i64 1] 3) (by simp)).trans (heap_alloc_new w1 (.cells #[.nilIface, .slice none 0 0, .string { data := #[] }, .int .i64 0, .bool false, .slice none 0 0, .bool false, .bool false, .int .i64 0] 133))
    have HI1 := Lib.hid (ints_one I1)
    have HI2 := Lib.hid (ints_one I2)
    have HI4 := Lib.hid (ints_one I4)
    have HA1 := Lib.hid (alone_any _ [1] _ HI1.out (by simp) (by simp))
    have HA2 := Lib.hid (alone_any _ [1] _ HI2.out (by simp) (by simp))
    have HA4 := Lib.hid (alone_any _ [1] _ HI4.out (by simp) (by simp))
    have HZ2 := Lib.hid Z2
    have HZ4 := Lib.hid Z4
    clear I1 I2 I4 Z2 Z4 c0
    unfold plV at HA1 HA2 HA4
    go_region_held3 (fun W => W.cell? ⟨fb, 0, none⟩ = some (.iface 31 (.pointer (some ⟨db, 0, none⟩))))
      (first | (with_reducible exact S0.out) | (with_reducible exact S1.out) | (with_reducible exact S2.out) | (with_reducible exact S3.out) | (with_reducible exact S4.out) | (with_reducible exact T2.out) | (with_reducible exact T3.out) | (with_reducible exact T5.out) | (with_reducible exact (nine_keep T3.out (by simp; omega))) | (with_reducible exact (nine_keep T2.out (by omega))))
      (first
        | (go_at_call 78; (with_reducible refine HA1.out.mono ?_); rintro e w2 ⟨rfl, hb2⟩; have HE2 := Lib.hid (HD1.out.trans (hb2.mono HD1.out.size)); have T2 := Lib.hid ((HE2.out.cell (p := ⟨fb, 0, none⟩) hlt1).trans S0.out); have HJ := Lib.hid ((HI1.out.below hb2).more hb2.size); have HE3 := Lib.hid (HE2.out.alloc HE2.out.size (.cells #[.nilIface, .slice none 0 0, .string { data := #[] }, .int .i64 0, .bool false, .slice none 0 0, .bool false, .bool false, .int .i64 0] 133)); have T3 := Lib.hid ((HE3.out.cell (p := ⟨fb, 0, none⟩) hlt1).trans S0.out); have HE5 := Lib.hid (HE2.out.alloc HE2.out.size (.cells #[.iface 31 (.pointer (some ⟨db, 0, none⟩)), .slice (some ⟨w1.heap.size, 0, none⟩) 1 1, .string (nm []), .int .i64 (lastI [1]), .bool false, .slice Al L.length cl, .bool B, .bool fw, .int .i64 0] 133)); have T5 := Lib.hid ((HE5.out.cell (p := ⟨fb, 0, none⟩) hlt1).trans S0.out); clear hb2)
        | (go_at_call 78; (with_reducible refine HA2.out.mono ?_); rintro e w2 ⟨rfl, hb2⟩; have HE2 := Lib.hid (HD2.out.trans (hb2.mono HD2.out.size)); have T2 := Lib.hid ((HE2.out.cell (p := ⟨fb, 0, none⟩) hlt1).trans S0.out); have HJ := Lib.hid ((HI2.out.below hb2).more hb2.size); have HZ := Lib.hid ((hb2.block _ (blk_lt HZ2.out)).trans HZ2.out); clear hb2; have z0 := cell_blk HZ.out 0; have y0 := froz_blk HZ.out 0; have z1 := cell_blk HZ.out 1; have y1 := froz_blk HZ.out 1; have z2 := cell_blk HZ.out 2; have y2 := froz_blk HZ.out 2; have z3 := cell_blk HZ.out 3; have y3 := froz_blk HZ.out 3; have z4 := cell_blk HZ.out 4; have y4 := froz_blk HZ.out 4; have z5 := cell_blk HZ.out 5; have y5 := froz_blk HZ.out 5; have z6 := cell_blk HZ.out 6; have y6 := froz_blk HZ.out 6; have z7 := cell_blk HZ.out 7; have y7 := froz_blk HZ.out 7; have z8 := cell_blk HZ.out 8; have y8 := froz_blk HZ.out 8; simp at z0 z1 z2 z3 z4 z5 z6 z7 z8)
        | (go_at_call 78; (with_reducible refine HA4.out.mono ?_); rintro e w2 ⟨rfl, hb2⟩; have HE2 := Lib.hid (HD4.out.trans (hb2.mono HD4.out.size)); have T2 := Lib.hid ((HE2.out.cell (p := ⟨fb, 0, none⟩) hlt1).trans S0.out); have HJ := Lib.hid ((HI4.out.below hb2).more hb2.size); have HZ := Lib.hid ((hb2.block _ (blk_lt HZ4.out)).trans HZ4.out); clear hb2; have z0 := cell_blk HZ.out 0; have y0 := froz_blk HZ.out 0; have z1 := cell_blk HZ.out 1; have y1 := froz_blk HZ.out 1; have z2 := cell_blk HZ.out 2; have y2 := froz_blk HZ.out 2; have z3 := cell_blk HZ.out 3; have y3 := froz_blk HZ.out 3; have z4 := cell_blk HZ.out 4; have y4 := froz_blk HZ.out 4; have z5 := cell_blk HZ.out 5; have y5 := froz_blk HZ.out 5; have z6 := cell_blk HZ.out 6; have y6 := froz_blk HZ.out 6; have z7 := cell_blk HZ.out 7; have y7 := froz_blk HZ.out 7; have z8 := cell_blk HZ.out 8; have y8 := froz_blk HZ.out 8; simp at z0 z1 z2 z3 z4 z5 z6 z7 z8))
    · go_wp2_with fail
      go_meet
      exact ⟨_, rfl, HE2.out.size, HE5.out, _, heap_alloc_new w2 _, (HJ.out.below ((Below.refl _ _).alloc (Nat.le_refl _) _)).more (by simp)⟩
    · go_wp2_with fail
      go_meet
      have hk := nine_kept w2 (w1.heap.size + 1)
      exact ⟨_, rfl, Nat.le_succ _, HE2.out.trans ((hk _ _ _ _ _ _ _ _ _).below HE2.out.size (fun j hj => by rw [hj]; exact Nat.le_succ _)), _, nine_set HZ.out _ _ _ _ _ _ _ _ _, HJ.out.kept (hk _ _ _ _ _ _ _ _ _) (OfType.of HZ.out)⟩
    · go_wp2_with fail
      go_meet
      have hk := nine_kept w2 w1.heap.size
      exact ⟨_, rfl, Nat.le_refl _, HE2.out.trans ((hk _ _ _ _ _ _ _ _ _).below HE2.out.size (fun j hj => by rw [hj]; exact Nat.le_refl _)), _, nine_set HZ.out _ _ _ _ _ _ _ _ _, HJ.out.kept (hk _ _ _ _ _ _ _ _ _) (OfType.of HZ.out)⟩
  case rest =>
    obtain ⟨wb, rfl, hwb, hbw, dv0, hblk, hI0⟩ := hcut
    have hS0 : WalkIn wc wb db (startS p.data.toList) fw dv0 (.slice Al L.length cl) := by
      refine ⟨?_, hI0, ?_⟩
      · rw [hblk]
        unfold startS
        dsimp only
        rw [HBB.out]
        rfl
      · unfold startS
        dsimp only
        rw [HLL.out]
        exact ((strs_of_row rfl HO1.out).below hbw).more hbw.size
    have HWW : Hid (∀ W, Kept (fun k => k = wb) wc W → Below w.heap.size w W) := Lib.hid (fun W hW => (HB1.out.trans (hbw.mono HB1.out.size)).trans (hW.below (Nat.le_trans HB1.out.size hbw.size) (fun j hj => by rw [hj]; exact Nat.le_trans HB1.out.size hwb)))
    have HWB := Lib.hid (show w.heap.size < wb by have := blk_lt HRB1.out; omega)
    have HRW : Hid (∀ W, Kept (fun k => k = wb) wc W → W.heap[w.heap.size]? = some (.cells #[.slice none 0 0, .string { data := #[] }, .int .i64 0, .bool false] 92 (0, 0))) := by
      have hlt2 := blk_lt HRB1.out
      refine Lib.hid (fun W hW => ?_)
      have e1 := hbw.block w.heap.size hlt2
      have e2 := hW.block w.heap.size (Nat.lt_of_lt_of_le hlt2 hbw.size) (by show ¬ w.heap.size = wb; omega)
      exact e2.trans (e1.trans HRB1.out)
    have HS0 := Lib.hid hS0
    clear hS0 hblk hI0 hwb hbw
    go_wp2_with fail
    go_loopg [10] (muS (startS p.data.toList) + 1) (fun g s10 wr => Going f wb db fw R wc g s10 wr)
    case atStart =>
      refine ⟨Kept.refl _ _, ?_⟩
      have hR := HR.out
      unfold beginR at hR
      have hpe := HPE.out
      split at hR
      · rename_i hne
        refine .inl ⟨pe, by rw [← hpe]; omega, rfl, ?_⟩
        rw [← hR, hpe]
      · rename_i hne
        obtain ⟨a1, a2, a3⟩ := start_ok hf p.data.toList
        exact .inr ⟨_, _, _, 40000, by rw [← hpe, show partsE p.data.toList = 0 from by omega]; rfl, a1, a2, HS0.out, hR, a3, rfl⟩
    case round =>
      obtain ⟨hk, ⟨x, hx0, rfl, hRx⟩ | ⟨s, dv, lv, n, rfl, hs, hu, hw, hrun, hmu, hg⟩⟩ := hrel
      · -- what went wrong is told
        subst hRx
        have q1 : (x == 0) = false := by simpa using hx0
        have q2 : (x != 0) = true := by simpa using hx0
        have rbr := HRW.out _ hk
        have hbr := HWW.out _ hk
        have j0 := cell_blk rbr 0
        have j1 := cell_blk rbr 1
        have j2 := cell_blk rbr 2
        have j3 := cell_blk rbr 3
        simp at j0 j1 j2 j3
        have f0 := froz_blk rbr 0
        have f1 := froz_blk rbr 1
        have f2 := froz_blk rbr 2
        have f3 := froz_blk rbr 3
        have HBR := Lib.hid hbr
        have HRBR := Lib.hid rbr
        have HX0 := Lib.hid hx0
        clear hbr rbr hx0
        go_wp2_with fail
        refine bodyPost_ret (results_cell2 rfl _ _ _ 92 _ (0, 0) _ rfl (four_set HRBR.out _ _ _ _) Tryz.underlying92 rfl (by kernel_rfl)) rfl ?_
        exact ⟨rfl, HX0.out, four_below HBR.out (Nat.le_refl _) _ _ _ _⟩
      · have hhp := hs.hops
        by_cases hl : s.left = []
        · rw [run_done _ hl] at hrun
          subst hrun
          have rbr := HRW.out _ hk
          have hbr := HWW.out _ hk
          have hne : wb ≠ w.heap.size := by have := HWB.out; omega
          have hid : I64 s.node := by
            rcases hs.node with e | e
            · rw [e]; exact i64_0
            · exact (hf.nid e).1
          obtain ⟨Av, cv, hlv⟩ := hw.left.len
          rw [hl] at hlv
          subst hlv
          obtain ⟨Ad, cd, hdv⟩ := hw.dirs.len
          subst hdv
          have HISD := Lib.hid (isDir_any fb db mb f ⟨s.dirs, s.name, s.node, false⟩ _ wr (HL.out.below hbr) hid hw.dirs)
          unfold plV at HISD
          have k1 := cell_blk hw.blk 1
          have k2 := cell_blk hw.blk 2
          have k3 := cell_blk hw.blk 3
          have k4 := cell_blk hw.blk 4
          have k5 := cell_blk hw.blk 5
          have k6 := cell_blk hw.blk 6
          simp at k1 k2 k3 k4 k5 k6
          have f4 := froz_blk hw.blk 4
          have j0 := cell_blk rbr 0
          have j1 := cell_blk rbr 1
          have j2 := cell_blk rbr 2
          have j3 := cell_blk rbr 3
          simp at j0 j1 j2 j3
          have e0 := froz_blk rbr 0
          have e1 := froz_blk rbr 1
          have e2 := froz_blk rbr 2
          have e3 := froz_blk rbr 3
          have HWK := Lib.hid hw
          have HBR := Lib.hid hbr
          have HRBR := Lib.hid rbr
          have HX0 := Lib.hid (show (22 : Int) ≠ 0 by decide)
          have hdone : doneS f.t s = (if s.slash = true ∧ s.node ≠ 0 ∧ (nod f.t.nodes s.node).kind ≠ 1 then .error 22 else .ok ⟨s.dirs, s.name, s.node, s.slash⟩) := rfl
          clear hw hbr rbr hs hu hmu hg hid hk hl hhp
          by_cases hsl : s.slash = true
          · rw [hsl] at k6 hdone
            by_cases h0 : s.node = 0
            · have q : (s.node != 0) = false := by simp [h0]
              rw [if_neg (by simp [h0])] at hdone
              have HDONE := Lib.hid hdone
              clear h0 hdone
              go_wp2_with fail
              have fe := found_end HWK.out HRBR.out HBR.out (Nat.le_refl _) (Nat.le_of_lt HWB.out) hne
              refine bodyPost_ret (results_cell2 rfl _ _ _ 92 _ (0, 0) _ rfl (fe _ _ _ _ _).1 Tryz.underlying92 rfl (by kernel_rfl)) rfl ?_
              rw [HDONE.out]
              exact ⟨_, rfl, (fe _ _ _ _ _).2.1, (fe _ _ _ _ _).2.2⟩
            · have q : (s.node != 0) = true := by simp [h0]
              by_cases hk1 : (nod f.t.nodes s.node).kind = 1
              · rw [if_neg (by simp [hk1])] at hdone
                have HDONE := Lib.hid hdone
                unfold BoolPost at HISD
                rw [show decide (s.node ≠ 0 ∧ kindF f s.node = 1) = true from by unfold kindF; simp [h0, hk1]] at HISD
                clear h0 hdone hk1
                go_wp2_with (go_at_call 41; (with_reducible refine HISD.out.mono ?_); rintro e w5 ⟨rfl, hb5⟩; clear k1 k2 k3 k4 k5 k6 f4 j0 j1 j2 j3 e0 e1 e2 e3; have hw := HWK.out.below hb5; have rbr := (hb5.block _ (blk_lt HRBR.out)).trans HRBR.out; have hbr := HBR.out.trans (hb5.mono HBR.out.size); have k1 := cell_blk hw.blk 1; have k2 := cell_blk hw.blk 2; have k3 := cell_blk hw.blk 3; have k4 := cell_blk hw.blk 4; have k6 := cell_blk hw.blk 6; simp at k1 k2 k3 k4 k6; have f4 := froz_blk hw.blk 4; have j0 := cell_blk rbr 0; have j1 := cell_blk rbr 1; have j2 := cell_blk rbr 2; have j3 := cell_blk rbr 3; simp at j0 j1 j2 j3; have e0 := froz_blk rbr 0; have e1 := froz_blk rbr 1; have e2 := froz_blk rbr 2; have e3 := froz_blk rbr 3; rw [hsl] at k6; clear HWK HBR HRBR hb5; have HWK := Lib.hid hw; have HBR := Lib.hid hbr; have HRBR := Lib.hid rbr; clear hw hbr rbr)
                have fe := found_end HWK.out HRBR.out HBR.out (Nat.le_refl _) (Nat.le_of_lt HWB.out) hne
                refine bodyPost_ret (results_cell2 rfl _ _ _ 92 _ (0, 0) _ rfl (fe _ _ _ _ _).1 Tryz.underlying92 rfl (by kernel_rfl)) rfl ?_
                rw [HDONE.out]
                exact ⟨_, rfl, (fe _ _ _ _ _).2.1, (fe _ _ _ _ _).2.2⟩
              · rw [if_pos ⟨rfl, h0, hk1⟩] at hdone
                have HDONE := Lib.hid hdone
                unfold BoolPost at HISD
                rw [show decide (s.node ≠ 0 ∧ kindF f s.node = 1) = false from by unfold kindF; simp [hk1]] at HISD
                clear h0 hdone hk1
                go_wp2_with (go_at_call 41; (with_reducible refine HISD.out.mono ?_); rintro e w5 ⟨rfl, hb5⟩; clear k1 k2 k3 k4 k5 k6 f4 j0 j1 j2 j3 e0 e1 e2 e3; have hw := HWK.out.below hb5; have rbr := (hb5.block _ (blk_lt HRBR.out)).trans HRBR.out; have hbr := HBR.out.trans (hb5.mono HBR.out.size); have k1 := cell_blk hw.blk 1; have k2 := cell_blk hw.blk 2; have k3 := cell_blk hw.blk 3; have k4 := cell_blk hw.blk 4; have k6 := cell_blk hw.blk 6; simp at k1 k2 k3 k4 k6; have f4 := froz_blk hw.blk 4; have j0 := cell_blk rbr 0; have j1 := cell_blk rbr 1; have j2 := cell_blk rbr 2; have j3 := cell_blk rbr 3; simp at j0 j1 j2 j3; have e0 := froz_blk rbr 0; have e1 := froz_blk rbr 1; have e2 := froz_blk rbr 2; have e3 := froz_blk rbr 3; rw [hsl] at k6; clear HWK HBR HRBR hb5; have HWK := Lib.hid hw; have HBR := Lib.hid hbr; have HRBR := Lib.hid rbr; clear hw hbr rbr)
                refine bodyPost_ret (results_cell2 rfl _ _ _ 92 _ (0, 0) _ rfl (four_set HRBR.out _ _ _ _) Tryz.underlying92 rfl (by kernel_rfl)) rfl ?_
                rw [HDONE.out]
                exact ⟨rfl, HX0.out, four_below HBR.out (Nat.le_refl _) _ _ _ _⟩
          · have hsl0 : s.slash = false := by simpa using hsl
            rw [if_neg (by simp [hsl]), hsl0] at hdone
            rw [hsl0] at k6
            have HDONE := Lib.hid hdone
            clear hdone hsl hsl0
            go_wp2_with fail
            have fe := found_end HWK.out HRBR.out HBR.out (Nat.le_refl _) (Nat.le_of_lt HWB.out) hne
            refine bodyPost_ret (results_cell2 rfl _ _ _ 92 _ (0, 0) _ rfl (fe _ _ _ _ _).1 Tryz.underlying92 rfl (by kernel_rfl)) rfl ?_
            rw [HDONE.out]
            exact ⟨_, rfl, (fe _ _ _ _ _).2.1, (fe _ _ _ _ _).2.2⟩
        · obtain ⟨ev, hd⟩ := HL.out.disk
          obtain ⟨m0, hm0⟩ := HM.out
          have hst := step_any hf wb db mb ev s fw dv lv wr hw hs hu hl (fun W hW => hd.below (HWW.out W (hk.trans hW))) (fun W hW => ⟨m0, ((HWW.out W (hk.trans hW)).cell (p := ⟨0, 0, none⟩) (cell_lt hm0)).trans hm0⟩)
          have hpos : 0 < s.left.length := List.length_pos_iff.2 hl
          have hposi : (0 : Int) < (s.left.length : Int) := by omega
          obtain ⟨Av, cv, hlv⟩ := hw.left.len
          subst hlv
          have k5 := cell_blk hw.blk 5
          simp at k5
          have hn : ∃ m, n = m + 1 := ⟨n - 1, by unfold muS at hmu; omega⟩
          obtain ⟨m, rfl⟩ := hn
          unfold runS at hrun
          rw [if_neg hl] at hrun
          have HK := Lib.hid hk
          cases e : stepS f.t fw s with
          | error x =>
            rw [e] at hrun hst
            unfold ThruPost at hst
            dsimp only at hst hrun
            have HST := Lib.hid hst
            have HX := Lib.hid (step_err e)
            have HRUN := Lib.hid hrun
            have HG := Lib.hid hg
            clear hst hrun e hw hs hu hl hk hd hm0 hmu hg hhp hpos
            go_wp2_with (go_at_call 79; (with_reducible refine HST.out.mono ?_); rintro e w2 ⟨rfl, hk2⟩; have HK2 := Lib.hid (HK.out.trans hk2); clear hk2)
            go_roundg 0
            case measure => have := HG.out; omega
            case rel => exact ⟨HK2.out, .inl ⟨_, HX.out, rfl, HRUN.out.symm⟩⟩
          | ok s' =>
            obtain ⟨a1, a2, a3⟩ := step_ok hf hs hu hl e
            rw [e] at hrun hst
            unfold ThruPost at hst
            dsimp only at hst hrun
            have HST := Lib.hid hst
            have HA := Lib.hid (show WsOk f.t s' ∧ Full s' ∧ runS f.t fw m s' = R ∧ muS s' ≤ m ∧ muS s' + 1 < gk from ⟨a1, a2, hrun, by omega, by omega⟩)
            clear hst hrun e hw hs hu hl hk hd hm0 hmu hg hhp hpos a1 a2 a3
            go_wp2_with (go_at_call 79; (with_reducible refine HST.out.mono ?_); rintro e w2 ⟨rfl, ⟨dv2, lv2, hw2⟩, hk2⟩; have HW2 := Lib.hid hw2; have HK2 := Lib.hid (HK.out.trans hk2); clear hk2 hw2)
            go_roundg (muS s' + 1)
            case measure => exact HA.out.2.2.2.2
            case rel => exact ⟨HK2.out, .inr ⟨s', dv2, lv2, m, rfl, HA.out.1, HA.out.2.1, HW2.out, HA.out.2.2.1, HA.out.2.2.2.1, rfl⟩⟩
end Go.Proofs.YtpicgkoclbpjpaaGreatDoor
end
