/- DERIVED. The walk of Links of a disk. -/
import Derived.Test.YtkmnbbocahjmaaaGreatDoorVtRange
namespace Go.Proofs.YtkmnbbocahjmaaaGreatDoor
open Go.RowKit Go.Sort Go.Lib
open PathM TreeM VtM
set_option linter.unusedVariables false

def toC (es : List Ent) (id : Int) : Nat := es.countP fun x => x.to == id
theorem links_app (a b : List Nd) (id : Int) : links (a ++ b) id = links a id + links b id := by simp [links, flat, List.countP_append]
theorem links_one (nd : Nd) (id : Int) : links [nd] id = toC nd.es id := by simp [links, flat, toC]
theorem links_perm {a b : List Nd} (h : a.Perm b) (id : Int) : links a id = links b id := (h.flatMap_right _).countP_eq _
theorem toC_le (es : List Ent) (id : Int) : toC es id ≤ es.length := List.countP_le_length
theorem toC_succ (es : List Ent) (id : Int) (q : Nat) (h : q < es.length) : toC (es.take (q + 1)) id = toC (es.take q) id + (if (entAt es q).to = id then 1 else 0) := by
  have e : es.take (q + 1) = es.take q ++ [entAt es q] := by
    rw [List.take_add_one, entAt_get h]; rfl
  rw [e]; simp only [toC, List.countP_append, List.countP_cons, List.countP_nil]
  simp
theorem links_le {l : List Nd} {k : Nat} (h : ∀ nd ∈ l, nd.es.length ≤ k) (id : Int) : links l id ≤ l.length * k := by
  induction l with
  | nil => simp [links, flat]
  | cons a l ih =>
    have h1 := h a (by simp)
    have h2 := ih fun nd hnd => h nd (by simp [hnd])
    have e : links (a :: l) id = links [a] id + links l id := links_app [a] l id
    have h3 := toC_le a.es id
    rw [e, links_one, List.length_cons, Nat.succ_mul]; omega
theorem RangeN.linksB {w : World} {mb r : Nat} {l : List Nd} {ev : Int → Value} {seen : List Nd} {cnt : Nat} (h : RangeN w mb r l ev seen cnt) (hr : Rise l) {k : Nat} (hk : ∀ nd ∈ l, nd.es.length ≤ k) (id : Int) : links seen id ≤ l.length * k :=
  Nat.le_trans (links_le (fun nd hnd => hk nd ((h.sub hr).mem_iff.1 hnd |> List.mem_filter.1).1) id) (Nat.mul_le_mul_right _ (h.len hr))

set_option maxRecDepth 100000 in
set_option maxHeartbeats 8000000 in
theorem links5_any (db mb : Nat) (t : Tr) (ev : Int → Value) (id : Int) (w : World) (h : DiskIn w db mb t ev) (hr : Rise t.nodes) (hlen : t.nodes.length ≤ 1000000) (hd : ∀ nd ∈ t.nodes, nd.es.length ≤ 1000000) :
    Calls Tryz.prog 201 #[.pointer (some ⟨db, 0, none⟩), .int .i64 id] w (IntPost (links t.nodes id) w) := by
  unfold IntPost
  have c0 := h.c0
  have HD := Lib.hid h; have HR := Lib.hid hr
  have hdl := blk_lt h.disk
  have hml := h.map.lt
  have HLE : Hid (t.nodes.length * 1000000 ≤ 1000000000000) := Lib.hid (by omega)
  clear h
  go_enter Tryz.func201, Tryz.ntmps201
  go_wp2_with (first | (go_at_call 56; refine (dnone_any db mb _ c0).mono ?_; rintro e w' ⟨rfl, rfl⟩) | (at_range; refine wpList_range_nodes rfl _ rfl mb t.nodes ev hr rfl HD.out.map ?_; intro w0 hrg0 hg0 hs0) | go_in)
  go_frame
  go_loopw [5] (fun v wr => ∃ (seen : List Nd) (cnt : Nat), v = .int .i64 (links seen id : Int) ∧ RangeN wr mb w.heap.size t.nodes ev seen cnt ∧ Below w.heap.size w wr) (fun _ wr => wr.rangeLeft mb w.heap.size)
  case atStart => exact ⟨[], _, rfl, hrg0, ⟨hg0.os, hg0.tape, hg0.output, hg0.size, fun k hk => hg0.block k hk (by simp)⟩⟩
  case round =>
    obtain ⟨seen, cnt, rfl, hrg, hb⟩ := hrel
    have HRG := Lib.hid hrg; have HB := Lib.hid hb
    clear hrg hb
    go_wp2_with (first | (at_next; refine wpList_next_nodes rfl _ rfl mb w.heap.size t.nodes ev HR.out seen cnt rfl HRG.out ?_ ?_) | go_in)
    · intro hp
      have e1 := links_perm hp id
      rw [e1]
      clear e1 hp
      go_wp2
      go_ret
      exact ⟨rfl, HB.out⟩
    · intro nd w1 cnt1 hnd hns hrg1 hlt hg1 hs1 hen
      have hE := HD.out.ents nd hnd
      have hm6 := hd nd hnd
      obtain ⟨Ae, ce, hev, _⟩ := ents_len hE
      rw [hev] at hen hE ⊢
      unfold ndV at hen ⊢
      have h1 := Nat.le_trans (HRG.out.linksB HR.out hd id) HLE.out
      have e1 : links (seen ++ [nd]) id = links seen id + toC nd.es id := by rw [links_app, links_one]
      have hb1 : Below w.heap.size w w1 := HB.out.grown hg1 HB.out.size (fun j hj => by cases hj; exact Nat.le_refl _)
      have HRG1 := Lib.hid hrg1; have HB1 := Lib.hid hb1; have HLT := Lib.hid hlt; have HE1 := Lib.hid e1
      have hE1 := hE.below hb1
      have HEN := Lib.hid hE1
      have hbb := (Below.refl w1.heap.size w1).alloc (Nat.le_refl _) (.cells #[.int .i64 nd.id, .int .i64 nd.kind, .int .i64 nd.mode, .int .i64 nd.owner, .int .i64 nd.time, .string (nm nd.data), .slice Ae nd.es.length ce] 64)
      have hrg2 := HRG1.out.below hbb
      have hb2 := HB1.out.trans (hbb.mono HB1.out.size)
      have HRG2 := Lib.hid hrg2; have HB2 := Lib.hid hb2; have HWO := Lib.hid hbb; have HBW : Hid (w.heap.size ≤ w1.heap.size) := Lib.hid HB1.out.size; have HBW2 := Lib.hid hb2.size
      obtain ⟨sz, hsz⟩ : ∃ sz, links seen id = sz := ⟨_, rfl⟩
      rw [hsz] at h1 e1 HE1 ⊢
      clear hrg1 hb1 hlt e1 hg1 hs1 hnd hns hev hE hE1 hbb hrg2 hb2
      go_wp2
      generalize hWb : w1.alloc (.cells #[.int .i64 nd.id, .int .i64 nd.kind, .int .i64 nd.mode, .int .i64 nd.owner, .int .i64 nd.time, .string (nm nd.data), .slice Ae nd.es.length ce] 64) = wo at *
      clear hWb hen
      have HTK : Hid (toC nd.es id = toC (nd.es.take nd.es.length) id) := Lib.hid (by rw [List.take_length])
      go_loopw [5, 25] (fun s j w2 => ∃ q : Nat, q ≤ nd.es.length ∧ j = .int .i64 q ∧ s = .int .i64 ((sz : Int) + (toC (nd.es.take q) id : Int)) ∧ Below wo.heap.size wo w2) (fun _ j _ => nd.es.length - (intOf j).toNat)
      case atStart => exact ⟨0, by omega, rfl, by simp [toC], Below.refl _ _⟩
      case round =>
        obtain ⟨q, hq, rfl, rfl, hbe⟩ := hrel
        have hcq := toC_le (nd.es.take q) id
        rw [List.length_take] at hcq
        have hws2 : wo.heap.size ≤ wr.heap.size := hbe.size
        have HBE := Lib.hid hbe
        clear hbe
        by_cases hqt : q < nd.es.length
        · obtain ⟨b, off, c, hv, hcap, hbl, _, hcells⟩ : ∃ b off c, Value.slice Ae nd.es.length ce = .slice (some ⟨b, off, none⟩) nd.es.length c ∧ nd.es.length ≤ c ∧ b < w.heap.size ∧ 0 < nd.es.length ∧ ∀ k, k < nd.es.length → w1.cell? ⟨b, off + k * 2, none⟩ = some (.string (nm (entAt nd.es k).key)) ∧ w1.cell? ⟨b, off + k * 2 + 1, none⟩ = some (.int .i64 (entAt nd.es k).to) := by
            rcases HEN.out.cases.2.2 with ⟨A, c, hv, he⟩ | h
            · rw [he] at hqt; simp at hqt
            · exact h
          injection hv with hA _ hc
          subst hA
          obtain ⟨ec0, ec1⟩ := hcells q hqt
          have hbw := HBW.out
          have hwo1 := HWO.out.size
          have d0 : wr.cell? ⟨b, off + q * 2, none⟩ = some (.string (nm (entAt nd.es q).key)) := (HBE.out.cell (p := ⟨b, off + q * 2, none⟩) (by simp; omega)).trans ((HWO.out.cell (p := ⟨b, off + q * 2, none⟩) (by simp; omega)).trans ec0)
          have d1 : wr.cell? ⟨b, off + q * 2 + 1, none⟩ = some (.int .i64 (entAt nd.es q).to) := (HBE.out.cell (p := ⟨b, off + q * 2 + 1, none⟩) (by simp; omega)).trans ((HWO.out.cell (p := ⟨b, off + q * 2 + 1, none⟩) (by simp; omega)).trans ec1)
          have hqq : (q : Int) < (nd.es.length : Int) := by omega
          have hst1 := toC_succ nd.es id q hqt
          have hfit : (sz : Int) + (toC (nd.es.take q) id : Int) + 1 ≤ 9223372036854775807 := by omega
          by_cases he : (entAt nd.es q).to = id
          · have q1 : ((entAt nd.es q).to == id) = true := by simpa using he
            rw [if_pos he] at hst1
            have HS1 := Lib.hid hst1
            clear hst1 he ec0 ec1 hcells hc hcq
            generalize toC (nd.es.take q) id = s at *
            generalize (entAt nd.es q).to = y at *
            generalize nm (entAt nd.es q).key = x at *
            go_wp2
            go_roundw
            case rel => exact ⟨q + 1, by omega, by go_num, by rw [HS1.out]; go_num, HBE.out.alloc hws2 _⟩
            case measure => simp [intOf]; omega
          · have q1 : ((entAt nd.es q).to == id) = false := by simpa using he
            rw [if_neg he] at hst1
            have HS1 := Lib.hid hst1
            clear hst1 he ec0 ec1 hcells hc hcq
            generalize toC (nd.es.take q) id = s at *
            generalize (entAt nd.es q).to = y at *
            generalize nm (entAt nd.es q).key = x at *
            go_wp2
            go_roundw
            case rel => exact ⟨q + 1, by omega, by go_num, by rw [HS1.out]; rfl, HBE.out.alloc hws2 _⟩
            case measure => simp [intOf]; omega
        · have hqm : q = nd.es.length := by omega
          have HQ : Hid (toC (nd.es.take q) id = toC nd.es id) := Lib.hid (by rw [hqm]; exact HTK.out.symm)
          have hqd : ¬ (q : Int) < (nd.es.length : Int) := by omega
          clear hqm hqt hq hcq
          go_wp2
          go_roundw
          case rel => exact ⟨seen ++ [nd], cnt1, by rw [HE1.out, HQ.out]; go_num, HRG2.out.below HBE.out, HB2.out.trans (HBE.out.mono HBW2.out)⟩
          case measure => rw [(HRG2.out.below HBE.out).left, HRG.out.left]; exact HLT.out
end Go.Proofs.YtkmnbbocahjmaaaGreatDoor
