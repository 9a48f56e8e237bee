/- DERIVED. Walks over the reader's command and arith. -/
import Derived.Test.YtgajbehlggikdaaWdOps
import Derived.Laws.Rows
namespace Go.Proofs.Ytgajbehlggikdaa.Wd
open Go.RowKit
open PathM WdM
set_option linter.unusedVariables false
/-- A part as a value. -/
def ptV (p : PT) (v : Value) : Value := .agg #[.int .i64 p.kind, .bool p.quoted, .string (nm p.text), .string (nm p.op), v]
theorem rd_alloc {w : World} {rb : Nat} {s : ByteArray} {i d : Nat} (h : RdIn w rb s i d) (o : Obj) : RdIn (w.alloc o) rb s i d := (Below.heap_alloc w o rb (fin_at h)).trans h
theorem kept_alloc {S : Nat → Prop} (w : World) (o : Obj) : Kept S w (w.alloc o) := kept_of_below ((Below.refl _ _).alloc (Nat.le_refl _) o)
theorem inside_lt (l : Bs) : ∀ (q : UInt8) (sk : Bool) (dp n : Nat), insideS q sk dp l = some n → n < l.length := by
  induction l with
  | nil => intro q sk dp n h; cases h
  | cons c t ih =>
    have key : ∀ q sk dp n, (insideS q sk dp t).map (· + 1) = some n → n < (c :: t).length := fun q sk dp n h => by
      cases hk : insideS q sk dp t with
      | none => rw [hk] at h; cases h
      | some m => rw [hk] at h; have := ih _ _ _ _ hk; simp at h ⊢; omega
    intro q sk dp n h
    rw [insideS] at h
    split at h
    · exact key _ _ _ _ h
    · split at h
      · split at h
        · exact key _ _ _ _ h
        · split at h
          · exact key _ _ _ _ h
          · split at h
            · exact key _ _ _ _ h
            · split at h
              · split at h
                · injection h with h; subst h; simp
                · exact key _ _ _ _ h
              · exact key _ _ _ _ h
      · split at h
        · exact key _ _ _ _ h
        · split at h
          · exact key _ _ _ _ h
          · exact key _ _ _ _ h
theorem rd_s {w : World} {rb : Nat} {s : ByteArray} {i d : Nat} (h : RdIn w rb s i d) : w.cell? ⟨rb, 0, none⟩ = some (.string s) := cell_blk h 0
theorem rd_at {w : World} {rb : Nat} {s : ByteArray} {i d : Nat} (h : RdIn w rb s i d) : w.cell? ⟨rb, 1, none⟩ = some (.int .i64 i) := cell_blk h 1
theorem rd_d {w : World} {rb : Nat} {s : ByteArray} {i d : Nat} (h : RdIn w rb s i d) : w.cell? ⟨rb, 2, none⟩ = some (.int .i64 d) := cell_blk h 2
theorem rd_fz {w : World} {rb : Nat} {s : ByteArray} {i d : Nat} (h : RdIn w rb s i d) (j : Nat) : w.frozen? ⟨rb, j, none⟩ = false := froz_blk h j
theorem rd_lt {w : World} {rb : Nat} {s : ByteArray} {i d : Nat} (h : RdIn w rb s i d) : rb < w.heap.size := fin_at h
theorem alloc_at (w : World) (o : Obj) (k : Nat) : ((w.alloc o).drewN k).heap[w.heap.size]? = some o := heap_alloc_new w o
theorem five_set {W : World} {b : Nat} {t : TypeId} {x0 x1 x2 x3 x4 : Value} (h : W.heap[b]? = some (.cells #[x0, x1, x2, x3, x4] t (0, 0))) (y0 y1 y2 y3 y4 : Value) :
    (((((W.setCell ⟨b, 0, none⟩ y0).setCell ⟨b, 1, none⟩ y1).setCell ⟨b, 2, none⟩ y2).setCell ⟨b, 3, none⟩ y3).setCell ⟨b, 4, none⟩ y4).heap[b]? = some (.cells #[y0, y1, y2, y3, y4] t (0, 0)) :=
  set_blk (j := 4) (set_blk (j := 3) (set_blk (j := 2) (set_blk (j := 1) (set_blk (j := 0) h y0) y1) y2) y3) y4
theorem five_kept {S : Nat → Prop} (W : World) {b : Nat} (hb : S b) (y0 y1 y2 y3 y4 : Value) :
    Kept S W (((((W.setCell ⟨b, 0, none⟩ y0).setCell ⟨b, 1, none⟩ y1).setCell ⟨b, 2, none⟩ y2).setCell ⟨b, 3, none⟩ y3).setCell ⟨b, 4, none⟩ y4) :=
  ((((Kept.setCell ⟨b, 0, none⟩ y0 hb).trans (Kept.setCell ⟨b, 1, none⟩ y1 hb)).trans (Kept.setCell ⟨b, 2, none⟩ y2 hb)).trans (Kept.setCell ⟨b, 3, none⟩ y3 hb)).trans (Kept.setCell ⟨b, 4, none⟩ y4 hb)
theorem rd_kept {S : Nat → Prop} {w w' : World} {rb : Nat} {s : ByteArray} {i d : Nat} (h : RdIn w rb s i d) (hk : Kept S w w') (hs : ¬ S rb) : RdIn w' rb s i d := hk.at h hs
set_option maxRecDepth 100000 in
set_option maxHeartbeats 1600000 in
theorem command_any (rb : Nat) (s : ByteArray) (i f d : Nat) (w : World) (h : RdIn w rb s i d) (hf : f ≤ i) (hi : i ≤ s.size) (hs : s.size ≤ 8192) :
    Calls Try.prog 80 #[.pointer (some ⟨rb, 0, none⟩), .int .i64 f] w
      (Ends s f (cmdS (s.size - f) (s.data.toList.drop i)) (fun x n e w' => i ≤ n ∧ Red rb s n d (ptV (.mk 3 false x [] []) (.slice none 0 0)) w e w') (fun w' => Kept (· = rb) w w')) := by
  have hin := inside_any (nm (s.data.toList.drop i))
  have hext := ext_from s i
  have hsz := drop_len s i hi
  unfold cmdS
  cases hx : inside (s.data.toList.drop i) with
  | none =>
    have HI : Hid (∀ n : Nat, Calls Try.prog 88 #[.string (s.extract i s.size)] ((w.alloc (.cells #[.int .i64 0, .bool false, .string ⟨#[]⟩, .string ⟨#[]⟩, .slice none 0 0] 64)).drewN n) fun e w'' => e = .returned (.int .i64 (-1)) ∧ ∃ m, w'' = (w.alloc (.cells #[.int .i64 0, .bool false, .string ⟨#[]⟩, .string ⟨#[]⟩, .slice none 0 0] 64)).drewN m) := Lib.hid (fun n => qd fun k => by
      have := hin ((w.alloc (.cells #[.int .i64 0, .bool false, .string ⟨#[]⟩, .string ⟨#[]⟩, .slice none 0 0] 64)).drewN k) (by rw [hsz]; omega)
      rw [nm_data, hx, ← hext] at this
      exact this)
    have HRD := Lib.hid h
    unfold RdIn at h
    have r0 := cell_blk h 0
    have r1 := cell_blk h 1
    have r2 := cell_blk h 2
    simp at r0 r1 r2
    have hz := fin_at h
    have f0 := froz_blk h 0
    have f1 := froz_blk h 1
    have f2 := froz_blk h 2
    clear h
    clear hin hext hsz hx
    go_enter Try.func80, Try.ntmps80
    go_wp2_with fail
    go_quiet ((go_at_call 88; exact HI.out _))
    go_wp2
    refine ⟨rfl, ?_⟩
    exact .inr ⟨f, 60, rfl, Nat.le_refl _, by omega, rfl, (kept_alloc _ _).trans (Kept.drewN _)⟩
  | some n =>
    have hn := inside_lt _ _ _ _ _ hx
    rw [bad_len] at hn
    have ht := fun W (hW : RdIn W rb s i d) => take_any rb s i d n W hW (by omega) hs
    have HT := Lib.hid ht
    have HI : Hid (∀ k : Nat, Calls Try.prog 88 #[.string (s.extract i s.size)] ((w.alloc (.cells #[.int .i64 0, .bool false, .string ⟨#[]⟩, .string ⟨#[]⟩, .slice none 0 0] 64)).drewN k) fun e w'' => e = .returned (.int .i64 n) ∧ ∃ m, w'' = (w.alloc (.cells #[.int .i64 0, .bool false, .string ⟨#[]⟩, .string ⟨#[]⟩, .slice none 0 0] 64)).drewN m) := Lib.hid (fun n => qd fun k => by
      have := hin ((w.alloc (.cells #[.int .i64 0, .bool false, .string ⟨#[]⟩, .string ⟨#[]⟩, .slice none 0 0] 64)).drewN k) (by rw [hsz]; omega)
      rw [nm_data, hx, ← hext] at this
      exact this)
    have HRD := Lib.hid h
    unfold RdIn at h
    have r0 := cell_blk h 0
    have r1 := cell_blk h 1
    have r2 := cell_blk h 2
    simp at r0 r1 r2
    have hz := fin_at h
    have f0 := froz_blk h 0
    have f1 := froz_blk h 1
    have f2 := froz_blk h 2
    clear h
    clear hin hext hsz hx ht
    go_enter Try.func80, Try.ntmps80
    go_wp2_with fail
    go_quiet ((go_at_call 88; exact HI.out _))
    have HRA := Lib.hid (rd_drewN (rd_alloc HRD.out (.cells #[.int .i64 0, .bool false, .string ⟨#[]⟩, .string ⟨#[]⟩, .slice none 0 0] 64)) nq)
    go_wp2_with (go_at_call 67; refine (HT.out _ HRA.out).mono ?_; rintro e w2 h9; obtain ⟨rfl, h9⟩ := h9; have HKK := Lib.hid h9.1; have HRR := Lib.hid h9.2; clear h9; have s1 := rd_at HRR.out; have g1 := rd_fz HRR.out 1; have hz2 := rd_lt HRR.out; have HPB := Lib.hid (HKK.out.at (alloc_at w _ nq) (by omega)); have p0 := cell_blk HPB.out 0; have p1 := cell_blk HPB.out 1; have p2 := cell_blk HPB.out 2; have p3 := cell_blk HPB.out 3; have p4 := cell_blk HPB.out 4; have q0 := froz_blk HPB.out 0; have q1 := froz_blk HPB.out 1; have q2 := froz_blk HPB.out 2; have q3 := froz_blk HPB.out 3; have q4 := froz_blk HPB.out 4; simp at p0 p1 p2 p3 p4; have hzp := fin_at HPB.out)
    have HPC := Lib.hid (((Kept.setCell (S := (· = rb)) (w := w2) ⟨rb, 1, none⟩ (.int .i64 (↑i + ↑n + 1)) rfl).at HPB.out (by omega)))
    have HRC : Hid (RdIn (w2.setCell ⟨rb, 1, none⟩ (.int .i64 (↑i + ↑n + 1))) rb s (i + n + 1) d) := Lib.hid (at_set HRR.out (i + n + 1))
    have HKC := Lib.hid ((kept_alloc (S := (· = rb)) w _).trans ((Kept.drewN nq).trans (HKK.out.trans (Kept.setCell (S := (· = rb)) (w := w2) ⟨rb, 1, none⟩ (.int .i64 (↑i + ↑n + 1)) rfl))))
    generalize w2.setCell ⟨rb, 1, none⟩ (.int .i64 (↑i + ↑n + 1)) = w3 at *
    have HK5 := Lib.hid ((five_kept (S := (· = w.heap.size)) w3 rfl (.int .i64 3) (.bool false) (.string (nm ((s.data.toList.drop i).take n))) (.string ⟨#[]⟩) (.slice none 0 0)).trans (kept_alloc _ (.cells #[.int .i64 3, .bool false, .string (nm ((s.data.toList.drop i).take n)), .string ⟨#[]⟩, .slice none 0 0] 64)))
    have hzw : w.heap.size < w3.heap.size := fin_at HPC.out
    refine bodyPost_ret (results_cell_row rfl _ _ _ 64 _ (0, 0) _ rfl ((Below.heap_alloc _ _ _ (by simpa using hzw)).trans (five_set HPC.out _ _ _ _ _)) Try.underlying64 rfl (by kernel_rfl)) rfl ?_
    refine .inl ⟨_, i + n + 1, ?_, by omega, by omega, by omega, rfl, HKC.out.then HK5.out (fun k hk e => absurd e (by omega)), rd_kept HRC.out HK5.out (by show ¬ rb = w.heap.size; omega)⟩
    rw [List.drop_drop]
    rfl

end Go.Proofs.Ytgajbehlggikdaa.Wd
