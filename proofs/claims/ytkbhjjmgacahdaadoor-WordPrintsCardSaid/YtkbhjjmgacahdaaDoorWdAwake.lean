/- DERIVED. The walk over the law's example; slices written out, as parts. -/
import Derived.Test.YtkbhjjmgacahdaaDoorWdRSame
namespace Go.Proofs.YtkbhjjmgacahdaaDoor.Wd
open Go.RowKit
open PathM WdM
set_option linter.unusedVariables false

theorem lit_pin {d b cap : Nat} {w : World} {S : Nat → Prop} {t : TypeId} {cs : Array Value} (ps : List (PT × Value)) (l : List PT) (h : w.heap[b]? = some (.cells cs t (0, 0))) (hc : cs = (ps.flatMap ptC).toArray) (hl : l = ps.map Prod.fst) (hb : S b) (hn : l.length ≤ 1954687338211)
    (hs : ∀ p ∈ ps, PIn d w S p.2 p.1.word) : PIn (d + 1) w S (.slice (some ⟨b, 0, none⟩) l.length cap) l := by
  refine ⟨some ⟨b, 0, none⟩, cap, ps, rfl, hl, hn, fun _ => ⟨b, 0, rfl, hb, fun i hi => ?_⟩⟩
  have hcell : ∀ k u, k < 5 → (ptC (ptAt ps i))[k]? = some u → w.cell? ⟨b, 0 + i * 5 + k, none⟩ = some u := fun k u hk hu => by
    rw [Nat.zero_add, cell_blk h, hc]
    have := (five_at ps i hi k hk).trans hu
    simpa using this
  exact ⟨hcell 0 _ (by decide) rfl, hcell 1 _ (by decide) rfl, hcell 2 _ (by decide) rfl, hcell 3 _ (by decide) rfl, hcell 4 _ (by decide) rfl, hs _ (ptAt_mem hi)⟩
theorem sameL_refl : ∀ l : List PT, sameL l l = true
  | [] => by simp [sameL]
  | .mk k q t o w :: a => by
    rw [sameL, sameL_refl w, sameL_refl a]
    simp
theorem below_drewN' {B : Nat} {a w : World} (h : Below B a w) (n : Nat) : Below B a (w.drewN n) := ⟨h.os, h.tape, h.output, h.size, h.block⟩
theorem PNew.any {n z : Nat} {W : World} {v : Value} {l : List PT} (h : PNew n z W v l) : PIn n W (fun _ => True) v l := PIn.mono (fun _ _ _ => trivial) n _ _ h
theorem PIn.alloc2 {d : Nat} {w : World} {S : Nat → Prop} {v : Value} {l : List PT} {o : Obj} (h : PIn d w S v l) : PIn d (w.alloc o) S v l := by
  induction d generalizing v l with
  | zero => exact h
  | succ d ih =>
    obtain ⟨A, c, ps, h1, h2, h3, h4⟩ := h
    refine ⟨A, c, ps, h1, h2, h3, fun hne => ?_⟩
    obtain ⟨b, off, h5, h6, h7⟩ := h4 hne
    refine ⟨b, off, h5, h6, fun i hi => ?_⟩
    obtain ⟨a0, a1, a2, a3, a4, a5⟩ := h7 i hi
    have e : ∀ j x, w.cell? ⟨b, j, none⟩ = some x → (w.alloc o).cell? ⟨b, j, none⟩ = some x := fun j x hx => (World.cell?_of_block (Below.heap_alloc w o b (World.block_lt_of_cell? _ _ hx))).trans hx
    exact ⟨e _ _ a0, e _ _ a1, e _ _ a2, e _ _ a3, e _ _ a4, ih a5⟩
def exT : ByteArray := ⟨#[97, 39, 98, 32, 99, 39, 34, 36, 120, 34, 36, 123, 121, 58, 45, 122, 125, 59]⟩
def exL : List PT := [litP false [97], litP true [98, 32, 99], .mk 2 true [120] [] [], .mk 2 false [121] [58, 45] [litP false [122]]]
theorem ex_scan {l : List PT} {n : Nat} (h : scan (exT.data.toList.drop 0) = .ok l (exT.data.toList.drop n)) : l = exL ∧ n = 17 := by
  have h2 : scan (exT.data.toList.drop 0) = .ok exL [59] := scan_example
  rw [h2] at h
  injection h with h3 h4
  have h5 := congrArg List.length h4
  rw [bad_len] at h5
  have h6 : exT.size = 18 := rfl
  exact ⟨h3.symm, by simp at h5; omega⟩
theorem ex_bad {a : Nat} {e : Int} (h : scan (exT.data.toList.drop 0) = .bad a e) : False := by
  have h2 : scan (exT.data.toList.drop 0) = .ok exL [59] := scan_example
  rw [h2] at h
  cases h
set_option maxRecDepth 100000 in
set_option maxHeartbeats 1600000 in
theorem awake_any (w : World) : Calls Tryd.prog 5 #[] w fun e w' => e = .returned (.bool true) ∧ Below w.heap.size w w' := by
  go_enter Tryd.func5, Tryd.ntmps5
  go_wp2_with fail
  refine (scan_any exT 0 w (by decide) (by decide)).mono ?_
  rintro e w1 ⟨hb, v, l, n, er, rfl, hv, _, _, hh⟩
  rcases hh with ⟨rfl, hsc, _⟩ | ⟨hsc, _⟩
  · obtain ⟨rfl, rfl⟩ := ex_scan hsc
    obtain ⟨va, vc, rfl, _⟩ := PIn.shape hv
    have HB := Lib.hid hb
    have HV := Lib.hid hv.any
    clear hb hv hsc
    go_wp2_with fail
    refine calls_gen (fun W => PIn 17 W (fun _ => True) (.slice va exL.length vc) exL ∧ PIn 2 W (fun _ => True) (.slice (some ⟨w1.heap.size + 1, 0, none⟩) 4 4) exL ∧ Below w.heap.size w W) ?_ ?_
    · have hB := HB.out
      refine ⟨?_, ?_, ?_⟩
      · exact HV.out.alloc2.alloc2
      · have n1 := heap_alloc_new w1 (.cells #[.int .i64 1, .bool false, .string ⟨#[122]⟩, .string ⟨#[]⟩, .slice none 0 0] 32)
        have m1 := (Below.heap_alloc (w1.alloc (.cells #[.int .i64 1, .bool false, .string ⟨#[122]⟩, .string ⟨#[]⟩, .slice none 0 0] 32)) (.cells #[.int .i64 1, .bool false, .string ⟨#[97]⟩, .string ⟨#[]⟩, .slice none 0 0, .int .i64 1, .bool true, .string ⟨#[98, 32, 99]⟩, .string ⟨#[]⟩, .slice none 0 0, .int .i64 2, .bool true, .string ⟨#[120]⟩, .string ⟨#[]⟩, .slice none 0 0, .int .i64 2, .bool false, .string ⟨#[121]⟩, .string ⟨#[58, 45]⟩, .slice (some ⟨w1.heap.size, 0, none⟩) 1 1] 32) w1.heap.size (by simp)).trans n1
        have n2 := heap_alloc_new (w1.alloc (.cells #[.int .i64 1, .bool false, .string ⟨#[122]⟩, .string ⟨#[]⟩, .slice none 0 0] 32)) (.cells #[.int .i64 1, .bool false, .string ⟨#[97]⟩, .string ⟨#[]⟩, .slice none 0 0, .int .i64 1, .bool true, .string ⟨#[98, 32, 99]⟩, .string ⟨#[]⟩, .slice none 0 0, .int .i64 2, .bool true, .string ⟨#[120]⟩, .string ⟨#[]⟩, .slice none 0 0, .int .i64 2, .bool false, .string ⟨#[121]⟩, .string ⟨#[58, 45]⟩, .slice (some ⟨w1.heap.size, 0, none⟩) 1 1] 32)
        simp only [World.size_alloc] at n2
        refine lit_pin (d := 1) [(litP false [97], .slice none 0 0), (litP true [98, 32, 99], .slice none 0 0), (.mk 2 true [120] [] [], .slice none 0 0), (.mk 2 false [121] [58, 45] [litP false [122]], .slice (some ⟨w1.heap.size, 0, none⟩) 1 1)] exL n2 rfl rfl trivial (by decide) ?_
        intro p hp
        simp only [List.mem_cons, List.not_mem_nil, or_false] at hp
        rcases hp with rfl | rfl | rfl | rfl
        · exact PIn.nil _ _ _ _ _
        · exact PIn.nil _ _ _ _ _
        · exact PIn.nil _ _ _ _ _
        · exact lit_pin (d := 0) [(litP false [122], .slice none 0 0)] [litP false [122]] m1 rfl rfl trivial (by decide) (fun p hp => by
            rw [List.mem_singleton] at hp
            subst hp
            exact PIn.nil _ _ _ _ _)
      · exact (hB.alloc hB.size _).alloc (by simp only [World.size_alloc]; have := hB.size; omega) _
    intro W hW
    refine (rsame_any 17 2 _ _ exL exL W _ _ hW.1 hW.2.1).mono ?_
    rintro e W2 ⟨rfl, k, rfl⟩
    have HB2 := Lib.hid hW.2.2
    rw [sameL_refl]
    clear hW
    go_wp2
    go_ret
    exact ⟨rfl, below_drewN' HB2.out k⟩
  · exact (ex_bad hsc).elim

end Go.Proofs.YtkbhjjmgacahdaaDoor.Wd
