/- DERIVED. The walk of the document's own target of layer 5: the names where a link leads. -/
import Derived.Test.YtpicgkoclbpjpaaGreatDoorVnRParts
namespace Go.Proofs.YtpicgkoclbpjpaaGreatDoor
open Go.RowKit
open PathM
set_option linter.unusedVariables false
theorem btw_more : ∀ (r l : Bs) (P : List Bs) (q : Bs), btw l = P ++ [q] → ∃ t, btw (l ++ r) = P ++ t
  | [], l, P, q, h => ⟨[q], by rw [List.append_nil]; exact h⟩
  | c :: r, l, P, q, h => by
    rw [show l ++ c :: r = (l ++ [c]) ++ r from by simp]
    by_cases hc : c = 47
    · subst hc
      obtain ⟨t, ht⟩ := btw_more r (l ++ [47]) (P ++ [q]) [] (by rw [btw_snoc_slash, h])
      exact ⟨q :: t, by rw [ht]; simp⟩
    · exact btw_more r (l ++ [c]) P (q ++ [c]) (btw_snoc_other l c hc P q h)
theorem longIn_app (P Q : List Bs) : longIn (P ++ Q) = (longIn P || longIn Q) := by unfold longIn; rw [List.any_append]
theorem fil_app (P Q : List Bs) : fil (P ++ Q) = fil P ++ fil Q := by unfold fil; rw [List.filter_append]
theorem fil_one_nil : fil [([] : Bs)] = [] := rfl
theorem fil_one {x : Bs} (h : x ≠ []) : fil [x] = [x] := by
  unfold fil
  cases x with
  | nil => exact absurd rfl h
  | cons a b => rfl
theorem long_one (x : Bs) : longIn [x] = decide (64 < x.length) := by simp [longIn]
theorem results_tmp4 {fn : Func} {t u v x : Tmp} (h : fn.results = #[.tmp t, .tmp u, .tmp v, .tmp x]) (tmps : Array Value) (P : Program) (w : World) :
    (results fn tmps).run P w = .ok (.tuple #[tmps.getD t undef, tmps.getD u undef, tmps.getD v undef, tmps.getD x undef]) w := by
  simp [results, h]
/-- What the loop holds. -/
def TarRel (l : Bs) (w : World) (v f i : Value) (wr : World) : Prop :=
  (∃ (k fr : Nat) (ps : List Bs), k ≤ l.length ∧ fr ≤ k ∧ i = .int .i64 k ∧ f = .int .i64 fr ∧ wr.ownsRow w.heap.size 9 1 v (fil ps).length ((fil ps).map enc) ∧ btw (l.take k) = ps ++ [(l.take k).drop fr] ∧ longIn ps = false ∧ (fil ps).length ≤ k ∧ Below w.heap.size w wr) ∨
  (i = .int .i64 ((l.length : Int) + 1) ∧ longIn (btw l) = false ∧ wr.ownsRow w.heap.size 9 1 v (names l).length ((names l).map enc) ∧ Below w.heap.size w wr)
/-- What is answered. -/
def TarPost (l : Bs) (w : World) (e : Ending) (w' : World) : Prop :=
  if longIn (btw l) = true then e = .returned (.tuple #[.slice none 0 0, .bool false, .bool false, .int .i64 26]) ∧ Below w.heap.size w w'
  else ∃ v, e = .returned (.tuple #[v, .bool (l.head? == some 47), .bool (!(names l).isEmpty && l.getLast? == some 47), .int .i64 0]) ∧ w'.ownsRow w.heap.size 9 1 v (names l).length ((names l).map enc) ∧ Below w.heap.size w w'
theorem names_fil (l : Bs) : names l = fil (btw l) := rfl
theorem tar_done {l : Bs} {w w1 : World} {v : Value} {ps : List Bs} {x : Bs} {i f : Value} (hb : btw l = ps ++ [x]) (hl : longIn ps = false) (hx : ¬ 64 < x.length) (hi : i = .int .i64 ((l.length : Int) + 1))
    (ho : w1.ownsRow w.heap.size 9 1 v (fil (ps ++ [x])).length ((fil (ps ++ [x])).map enc)) (hB : Below w.heap.size w w1) : TarRel l w v f i w1 :=
  .inr ⟨hi, by rw [hb, longIn_app, hl, long_one]; simpa using hx, by rw [names_fil, hb]; exact ho, hB⟩
set_option maxRecDepth 100000 in
set_option maxHeartbeats 2000000 in
theorem target_any (s : ByteArray) (w : World) (hs : s.size ≤ 2000000) (hpos : 0 < s.size) :
    Calls Tryz.prog 67 #[.string s] w (TarPost s.data.toList w) := by
  have hL := Lib.hid (sizeD s)
  obtain ⟨i0, hi, hz0, hz1, hz2⟩ := info_parts info9
  have HI := Lib.hid hi; have HZ0 := Lib.hid hz0; have HZ1 := Lib.hid hz1; have HZ2 := Lib.hid hz2; clear hi hz0 hz1 hz2
  have hst : TarRel s.data.toList w (.slice none 0 0) (.int .i64 0) (.int .i64 0) w := .inl ⟨0, 0, [], by omega, by omega, rfl, rfl, World.ownsRow_nil _ _ _ _, by simp [btw], rfl, by simp [fil], Below.refl _ _⟩
  go_enter Tryz.func67, Tryz.ntmps67
  go_wp2
  go_loopw [6, 7, 8] (fun v f i wr => TarRel s.data.toList w v f i wr) (fun _ _ i _ => s.size + 1 - (intOf i).toNat)
  case atStart => exact hst
  case round =>
    clear hst
    rcases hrel with ⟨k, fr, ps, hk, hfk, rfl, rfl, hrow, hbt, hlo, hpk, hB⟩ | ⟨rfl, hlo, hrow, hB⟩
    · rw [← hL.out] at hk
      have hle := hB.size
      have hki : (k : Int) ≤ (s.size : Int) := by omega
      have hseg : ((s.data.toList.take k).drop fr).length = k - fr := by rw [List.length_drop, List.length_take, ← hL.out]; omega
      have hx := ext_mid s fr k
      by_cases hlt : k < s.size
      · have hlen : k < s.data.toList.length := by rw [← hL.out]; exact hlt
        have hlti : (k : Int) < (s.size : Int) := by omega
        have hbyte : s.data.toList[k] = s[k] := by simp [ByteArray.getElem_eq_getElem_data]
        have htk := List.take_succ_eq_append_getElem hlen
        rw [hbyte] at htk
        by_cases hc : s[k] = 47
        · have q1 : ((s[k].toNat : Int) != 47) = false := by rw [hc]; rfl
          by_cases hlong : 64 < k - fr
          · have hli : (64 : Int) < (k : Int) - (fr : Int) := by omega
            have hall : longIn (btw s.data.toList) = true := by
              obtain ⟨t, ht⟩ := btw_more (s.data.toList.drop (k + 1)) (s.data.toList.take (k + 1)) (ps ++ [(s.data.toList.take k).drop fr]) [] (by rw [htk, hc, btw_snoc_slash, hbt])
              rw [List.take_append_drop] at ht
              rw [ht, longIn_app, longIn_app, long_one, hseg]; simp [hlong]
            have HALL := Lib.hid hall
            clear hall htk hbyte hc hbt hlo hrow hx hseg hlong
            go_wp2
            (try simp only [Exit.inBlock, Exit.then])
            refine bodyPost_ret (results_tmp4 rfl _ _ _) rfl ?_
            unfold TarPost
            rw [if_pos HALL.out]
            exact ⟨rfl, hB⟩
          · have hli : ¬ (64 : Int) < (k : Int) - (fr : Int) := by omega
            have hb2 : btw (s.data.toList.take (k + 1)) = (ps ++ [(s.data.toList.take k).drop fr]) ++ [(s.data.toList.take (k + 1)).drop (k + 1)] := by
              rw [List.drop_take_self, htk, hc, btw_snoc_slash, hbt]
            have hl2 : longIn (ps ++ [(s.data.toList.take k).drop fr]) = false := by rw [longIn_app, hlo, long_one, hseg]; simpa using hlong
            have HX := Lib.hid hx; have HB2 := Lib.hid hb2; have HL2 := Lib.hid hl2
            by_cases hkf : fr < k
            · have hkfi : (fr : Int) < (k : Int) := by omega
              have hne : (s.data.toList.take k).drop fr ≠ [] := fun e => by rw [e] at hseg; simp at hseg; omega
              have HF := Lib.hid (show fil (ps ++ [(s.data.toList.take k).drop fr]) = fil ps ++ [(s.data.toList.take k).drop fr] from by rw [fil_app, fil_one hne])
              clear hb2 htk hbyte hc hbt hl2 hlo hseg hx hlong hne
              go_wp2_with (at_builtin; refine wpList_append_own _ rfl _ _ 48 rfl w.heap.size 9 i0 (.string ByteArray.empty) 1 16 Tryz.underlying48 HI.out HZ0.out HZ1.out HZ2.out rfl (by decide) _ _ _ rfl (hrow.alloc _) ⟨wr.heap.size, 0, none⟩ 1 1 [.string (s.extract fr k)] rfl rfl (cell_one_new _ _ _) (by simp [Value.oneCell']) (by unfold maxLen; omega) (by omega) (by simp; omega) ?_; intro v' w1 hown' hgrow _)
              have hB1 := (hB.alloc hle _).grown hgrow (by simp; omega) (fun j e => (hrow.lt j e).1)
              go_roundw
              case rel => exact .inl ⟨k + 1, k + 1, ps ++ [(s.data.toList.take k).drop fr], by rw [← hL.out]; omega, by omega, by go_num, by go_num, by rw [HF.out, enc_snoc, List.length_append, ← HX.out]; exact hown', HB2.out, HL2.out, by rw [HF.out]; simp; omega, hB1⟩
              case measure => simp [intOf]; omega
            · have hkfi : ¬ (fr : Int) < (k : Int) := by omega
              have hem : (s.data.toList.take k).drop fr = [] := List.length_eq_zero_iff.1 (by omega)
              have HF := Lib.hid (show fil (ps ++ [(s.data.toList.take k).drop fr]) = fil ps from by rw [hem, fil_app, fil_one_nil, List.append_nil])
              clear hb2 htk hbyte hc hbt hl2 hlo hseg hx hlong hem
              go_wp2
              go_roundw
              case rel => exact .inl ⟨k + 1, k + 1, ps ++ [(s.data.toList.take k).drop fr], by rw [← hL.out]; omega, by omega, by go_num, by go_num, by rw [HF.out]; exact hrow, HB2.out, HL2.out, by rw [HF.out]; omega, hB⟩
              case measure => simp [intOf]; omega
        · have q1 : ((s[k].toNat : Int) != 47) = true := bne_iff_ne.2 (fun h => hc (UInt8.toNat_inj.1 (by have : (47 : UInt8).toNat = 47 := rfl; omega)))
          have hb2 : btw (s.data.toList.take (k + 1)) = ps ++ [(s.data.toList.take (k + 1)).drop fr] := by
            rw [htk, btw_snoc_other _ _ hc ps _ hbt, List.drop_append_of_le_length (by simp; omega)]
          have HB2 := Lib.hid hb2; have HLO := Lib.hid hlo; clear hb2 htk hbyte hc hbt hlo hseg hx
          go_wp2
          go_roundw
          case rel => exact .inl ⟨k + 1, fr, ps, by rw [← hL.out]; omega, by omega, by go_num, rfl, hrow, HB2.out, HLO.out, by omega, hB⟩
          case measure => simp [intOf]; omega
      · have hkk : k = s.size := by omega
        have hlti : ¬ (k : Int) < (s.size : Int) := by omega
        have hbt2 : btw s.data.toList = ps ++ [(s.data.toList.take k).drop fr] := by
          rw [← hbt, List.take_of_length_le (by rw [← hL.out]; omega)]
        by_cases hlong : 64 < k - fr
        · have hli : (64 : Int) < (k : Int) - (fr : Int) := by omega
          have HALL := Lib.hid (show longIn (btw s.data.toList) = true from by rw [hbt2, longIn_app, long_one, hseg]; simp [hlong])
          clear hbt hbt2 hlo hrow hx hseg hlong hkk
          go_wp2
          (try simp only [Exit.inBlock, Exit.then])
          refine bodyPost_ret (results_tmp4 rfl _ _ _) rfl ?_
          unfold TarPost
          rw [if_pos HALL.out]
          exact ⟨rfl, hB⟩
        · have hli : ¬ (64 : Int) < (k : Int) - (fr : Int) := by omega
          have HX := Lib.hid hx; have HB2 := Lib.hid hbt2; have HLO := Lib.hid hlo
          have HSG := Lib.hid (show ¬ 64 < ((s.data.toList.take k).drop fr).length from by rw [hseg]; exact hlong)
          have HKK := Lib.hid (show Value.int .i64 ((k : Int) + 1) = .int .i64 ((s.data.toList.length : Int) + 1) from by rw [hkk, hL.out])
          by_cases hkf : fr < k
          · have hkfi : (fr : Int) < (k : Int) := by omega
            have hne : (s.data.toList.take k).drop fr ≠ [] := fun e => by rw [e] at hseg; simp at hseg; omega
            have HF := Lib.hid (show fil (ps ++ [(s.data.toList.take k).drop fr]) = fil ps ++ [(s.data.toList.take k).drop fr] from by rw [fil_app, fil_one hne])
            clear hbt hbt2 hlo hseg hx hlong hne hkk
            go_wp2_with (at_builtin; refine wpList_append_own _ rfl _ _ 48 rfl w.heap.size 9 i0 (.string ByteArray.empty) 1 16 Tryz.underlying48 HI.out HZ0.out HZ1.out HZ2.out rfl (by decide) _ _ _ rfl (hrow.alloc _) ⟨wr.heap.size, 0, none⟩ 1 1 [.string (s.extract fr k)] rfl rfl (cell_one_new _ _ _) (by simp [Value.oneCell']) (by unfold maxLen; omega) (by omega) (by simp; omega) ?_; intro v' w1 hown' hgrow _)
            have hB1 := (hB.alloc hle _).grown hgrow (by simp; omega) (fun j e => (hrow.lt j e).1)
            go_roundw
            case rel => exact tar_done HB2.out HLO.out HSG.out (by first | exact HKK.out | (rw [← HKK.out]; go_num)) (by rw [HF.out, enc_snoc, List.length_append, ← HX.out]; exact hown') hB1
            case measure => simp [intOf]; omega
          · have hkfi : ¬ (fr : Int) < (k : Int) := by omega
            have hem : (s.data.toList.take k).drop fr = [] := List.length_eq_zero_iff.1 (by omega)
            have HF := Lib.hid (show fil (ps ++ [(s.data.toList.take k).drop fr]) = fil ps from by rw [hem, fil_app, fil_one_nil, List.append_nil])
            clear hbt hbt2 hlo hseg hx hlong hem hkk
            go_wp2
            go_roundw
            case rel => exact tar_done HB2.out HLO.out HSG.out (by first | exact HKK.out | (rw [← HKK.out]; go_num)) (by rw [HF.out]; exact hrow) hB
            case measure => simp [intOf]; omega
    · rw [← hL.out]
      have hfin : ¬ ((s.size : Int) + 1) ≤ (s.size : Int) := by omega
      have HLO := Lib.hid hlo
      have hla := last_byte s hpos
      have hfi : ((s[0].toNat : Int) == 47) = (s.data.toList.head? == some 47) := by
        have h2 : s.data.toList.head? = some s[0] := by
          rw [List.head?_eq_getElem?]
          exact getD? s 0 (by omega)
        rw [h2]
        by_cases hc : s[0] = 47
        · rw [hc]; rfl
        · rw [beq_eq_false_iff_ne.2 (fun h => hc (UInt8.toNat_inj.1 (by have : (47 : UInt8).toNat = 47 := rfl; omega)))]
          rw [beq_eq_false_iff_ne.2 (fun h => hc (by simpa using h))]
      have HLA := Lib.hid hla
      have HFI := Lib.hid hfi
      clear hlo hla hfi
      obtain ⟨a, cp, rfl⟩ := ownsRow_len hrow
      have hw1 : IntKind.i64.wrap ((s.size : Int) - 1) = (s.size : Int) - 1 := IntWalk.i64_in _ (by omega)
      have hw2 : (0 : Int) ≤ (s.size : Int) - 1 := by omega
      have hw3 : ((s.size : Int) - 1).toNat = s.size - 1 := by omega
      have hw4 : (1 : Int) ≤ (s.size : Int) := by omega
      generalize hN : names s.data.toList = N at *
      have HNN := Lib.hid hN
      clear hN
      have OW : ∀ n, n = N.length → wr.ownsRow w.heap.size 9 1 (.slice a n cp) N.length (N.map enc) := fun n h => by rw [h]; exact hrow
      by_cases hN0 : N.length = 0
      · have OW2 := Lib.hid (OW 0 hN0.symm)
        have HEM := Lib.hid (show N.isEmpty = true from by rw [List.isEmpty_iff]; exact List.length_eq_zero_iff.1 hN0)
        clear OW hrow
        rw [hN0]
        clear hN0
        go_wp2
        go_quiet (fail)
        go_wp2
        (try simp only [Exit.inBlock, Exit.then])
        refine bodyPost_ret (results_tmp4 rfl _ _ _) rfl ?_
        unfold TarPost
        rw [if_neg (by rw [HLO.out]; decide), HNN.out, ← HFI.out, HEM.out]
        exact ⟨_, rfl, ownsRow_drewN OW2.out _, below_drewN' hB _⟩
      · have hN2 : 0 < N.length := by omega
        have hN3 : decide ((0 : Int) < (N.length : Int)) = true := by simp; omega
        have OW2 := Lib.hid (OW _ rfl)
        have HEM := Lib.hid (show N.isEmpty = false from by
          cases N with
          | nil => simp at hN2
          | cons _ _ => rfl)
        clear OW hrow hN0
        have hix := idx_last s hpos
        go_wp2
        go_quiet (fail)
        go_wp2
        (try simp only [Exit.inBlock, Exit.then])
        refine bodyPost_ret (results_tmp4 rfl _ _ _) rfl ?_
        unfold TarPost
        rw [if_neg (by rw [HLO.out]; decide), HNN.out, ← HFI.out, HEM.out, ← HLA.out]
        exact ⟨_, rfl, ownsRow_drewN OW2.out _, below_drewN' hB _⟩
end Go.Proofs.YtpicgkoclbpjpaaGreatDoor
