/- DERIVED. The law SyntaxGroups. -/
import Derived.Test.YtgajbehlggikdaaSwGk
import Derived.StillTailTactics
import Derived.Deep.Cut
import Derived.Deep.CutRange
namespace Go.Proofs.Ytgajbehlggikdaa.Sw
open Go.RowKit Go.Sort
open PathM WdM SyM
open Go.Proofs.Ytgajbehlggikdaa.Wd
set_option linter.unusedVariables false

theorem ls_any {d : Nat} {W : World} {S : Nat → Prop} {v : Value} {x : List LiT} (h : LsIn d W S v x) : LsIn d W (fun _ => True) v x := LsIn.good d _ _ _ _ _ _ (fun k _ _ => ⟨trivial, rfl⟩) h
theorem ls_below {d : Nat} {S : Nat → Prop} {w w' : World} {v : Value} {x : List LiT} (hb : Below w.heap.size w w') (h : LsIn d w S v x) : LsIn d w' S v x := good_below (LsIn.good d) hb h
theorem ls_drew {d : Nat} {S : Nat → Prop} {w : World} {v : Value} {x : List LiT} (h : LsIn d w S v x) : LsIn d w.drew S v x := ls_below (Below.refl _ _).drew h
theorem ls_len {d : Nat} {w : World} {S : Nat → Prop} {v : Value} {l : List LiT} (h : LsIn (d + 1) w S v l) : (∃ A c, v = .slice A l.length c) ∧ l.length ≤ 281474976710656 := Sl.len (R := RLi (LsIn d)) h
theorem hd_size (k : Nat) : (nm (hdT k)).size ≤ 19 := by
  rw [nm_size]
  match k with
  | 0 => decide
  | 1 => decide
  | 2 => decide
  | 3 => decide
  | 4 => decide
  | n + 5 => show (hdT 5).length ≤ 19; decide
theorem tl_size (k : Nat) : (nm (tlT k)).size ≤ 19 := by
  rw [nm_size]
  match k with
  | 0 => decide
  | 1 => decide
  | 2 => decide
  | 3 => decide
  | 4 => decide
  | n + 5 => show (tlT 5).length ≤ 19; decide
theorem hd_at {W : World} {b k : Nat} (h : W.heap[b]? = some (.cells #[.string ⟨#[123, 10]⟩, .string ⟨#[40]⟩, .string ⟨#[119, 104, 105, 108, 101, 32]⟩, .string ⟨#[105, 102, 32, 120, 10, 116, 104, 101, 110, 32]⟩, .string ⟨#[102, 40, 41, 32, 123, 10]⟩, .string ⟨#[105, 102, 32, 120, 59, 32, 116, 104, 101, 110, 32, 121, 59, 32, 101, 108, 115, 101, 10]⟩] 9 (0, 0))) (hk : k < 6) : W.cell? ⟨b, k, none⟩ = some (.string (nm (hdT k))) := by
  have := cell_blk h k
  match k, hk with
  | 0, _ => exact this
  | 1, _ => exact this
  | 2, _ => exact this
  | 3, _ => exact this
  | 4, _ => exact this
  | 5, _ => exact this
theorem tl_at {W : World} {b k : Nat} (h : W.heap[b]? = some (.cells #[.string ⟨#[10, 125]⟩, .string ⟨#[10, 41]⟩, .string ⟨#[10, 100, 111, 32, 120, 10, 100, 111, 110, 101]⟩, .string ⟨#[10, 102, 105]⟩, .string ⟨#[10, 125]⟩, .string ⟨#[10, 102, 105]⟩] 9 (0, 0))) (hk : k < 6) : W.cell? ⟨b, k, none⟩ = some (.string (nm (tlT k))) := by
  have := cell_blk h k
  match k, hk with
  | 0, _ => exact this
  | 1, _ => exact this
  | 2, _ => exact this
  | 3, _ => exact this
  | 4, _ => exact this
  | 5, _ => exact this
/-- What stands ahead of the second reading. -/
structure GrP (w : World) (k hb tb : Nat) (v : Value) (xs : List LiT) (W : World) : Prop where
  below : Below w.heap.size w W
  hd : W.cell? ⟨hb, k, none⟩ = some (.string (nm (hdT k)))
  tl : W.cell? ⟨tb, k, none⟩ = some (.string (nm (tlT k)))
  hlt : hb < W.heap.size
  tlt : tb < W.heap.size
  val : LsIn 18 W (fun _ => True) v xs
set_option maxRecDepth 100000 in
set_option maxHeartbeats 6400000 in
theorem groups_law (s : ByteArray) (a : Int) (w : World) (hm : s.size ≤ maxLen) (h0 : 0 ≤ a) (h1 : a ≤ 18446744073709551615) :
    Calls Try.prog 5 #[.string s, .int .u64 a] w fun e w' => e = .returned (.bool true) ∧ Below w.heap.size w w' := by
  have hmx : s.size ≤ 9223372036854775807 := by unfold maxLen at hm; omega
  have HAW := Lib.hid awake_any
  clear hm
  by_cases hl : 1500 < s.size
  · as_aux_lemma =>
      go_enter Try.func5, Try.ntmps5
      go_wp2_with (go_at_call 7; refine (HAW.out _).mono ?_; rintro e W ⟨rfl, hb⟩; have HB := Lib.hid hb; clear hb)
      go_ret
      exact ⟨rfl, HB.out⟩
  · have hs1 : s.size ≤ 1500 := by omega
    clear hmx hl
    have hps := Parse_any s w (by omega)
    unfold ParsePost at hps
    cases hp : parseL s.data.toList with
    | bad a2 er =>
      as_aux_lemma =>
        rw [hp] at hps
        have her := parse_err hp
        have HPX := Lib.hid hps
        clear hps hp
        go_enter Try.func5, Try.ntmps5
        go_wp2_with fail
        refine HPX.out.mono ?_
        rintro e W ⟨hb, h9⟩
        have h9 : e = _ := h9
        subst h9
        have HB := Lib.hid hb
        clear hb
        go_wp2_with (go_at_call 7; refine (HAW.out _).mono ?_; rintro e W2 ⟨rfl, hb⟩; have HB2 := Lib.hid (HB.out.trans (hb.mono HB.out.size)); clear hb)
        go_ret
        exact ⟨rfl, HB2.out⟩
    | ok xs q =>
      rw [hp] at hps
      by_cases hx : xs = []
      · as_aux_lemma =>
          subst hx
          have HPX := Lib.hid hps
          clear hps hp
          go_enter Try.func5, Try.ntmps5
          go_wp2_with fail
          refine HPX.out.mono ?_
          rintro e W ⟨hb, v, rfl, hv⟩
          obtain ⟨⟨A1, c1, rfl⟩, _⟩ := ls_len hv
          have HB := Lib.hid hb
          clear hb hv
          go_wp2_with (go_at_call 7; refine (HAW.out _).mono ?_; rintro e W2 ⟨rfl, hb⟩; have HB2 := Lib.hid (HB.out.trans (hb.mono HB.out.size)); clear hb)
          go_ret
          exact ⟨rfl, HB2.out⟩
      · have HPX := Lib.hid hps
        obtain ⟨k, hk⟩ : ∃ k : Nat, a % 6 = (k : Int) := ⟨(a % 6).toNat, by omega⟩
        have hk6 : k < 6 := by omega
        have hxl : 0 < xs.length := List.length_pos_iff.2 hx
        have hma := groups_math hp hx k hk6
        clear hps hp hx
        obtain ⟨y1, e1, n1, c1⟩ := cat_any (nm (hdT k)) s 19 1500 (hd_size k) hs1 (by decide)
        obtain ⟨y2, e2, n2, c2⟩ := cat_any y1 (nm (tlT k)) 1519 19 n1 (tl_size k) (by decide)
        have HY : Hid (y2.data.toList = hdT k ++ (s.data.toList ++ tlT k)) := Lib.hid (by rw [e2.out, e1.out, nm_data, nm_data]; simp)
        have HPY := Lib.hid (fun W => Parse_any y2 W (by omega))
        clear e1 e2
        rw [← HY.out] at hma
        have HMA := Lib.hid hma
        clear hma
        go_enter Try.func5, Try.ntmps5
        go_wp2_with fail
        refine HPX.out.mono ?_
        rintro e W ⟨hb, v, rfl, hv⟩
        obtain ⟨⟨A1, d1, rfl⟩, hlen⟩ := ls_len hv
        have hv2 := ls_any hv
        have HB := Lib.hid hb
        have HV := Lib.hid hv2
        have hxn : ((xs.length : Int) == 0) = false := by rw [beq_eq_false_iff_ne]; omega
        clear hb hv hv2
        generalize xs.length = nx at *
        go_upto_region 9 with (fail)
        refine wp_gen (fun W' => GrP w k W.heap.size (W.heap.size + 1) (.slice A1 nx d1) xs W') ?_ ?_
        · have n1 := heap_alloc_new W (.cells #[.string ⟨#[123, 10]⟩, .string ⟨#[40]⟩, .string ⟨#[119, 104, 105, 108, 101, 32]⟩, .string ⟨#[105, 102, 32, 120, 10, 116, 104, 101, 110, 32]⟩, .string ⟨#[102, 40, 41, 32, 123, 10]⟩, .string ⟨#[105, 102, 32, 120, 59, 32, 116, 104, 101, 110, 32, 121, 59, 32, 101, 108, 115, 101, 10]⟩] 9)
          have n2 := heap_alloc_new (W.alloc (.cells #[.string ⟨#[123, 10]⟩, .string ⟨#[40]⟩, .string ⟨#[119, 104, 105, 108, 101, 32]⟩, .string ⟨#[105, 102, 32, 120, 10, 116, 104, 101, 110, 32]⟩, .string ⟨#[102, 40, 41, 32, 123, 10]⟩, .string ⟨#[105, 102, 32, 120, 59, 32, 116, 104, 101, 110, 32, 121, 59, 32, 101, 108, 115, 101, 10]⟩] 9)) (.cells #[.string ⟨#[10, 125]⟩, .string ⟨#[10, 41]⟩, .string ⟨#[10, 100, 111, 32, 120, 10, 100, 111, 110, 101]⟩, .string ⟨#[10, 102, 105]⟩, .string ⟨#[10, 125]⟩, .string ⟨#[10, 102, 105]⟩] 9)
          have hbl : Below W.heap.size W ((W.alloc (.cells #[.string ⟨#[123, 10]⟩, .string ⟨#[40]⟩, .string ⟨#[119, 104, 105, 108, 101, 32]⟩, .string ⟨#[105, 102, 32, 120, 10, 116, 104, 101, 110, 32]⟩, .string ⟨#[102, 40, 41, 32, 123, 10]⟩, .string ⟨#[105, 102, 32, 120, 59, 32, 116, 104, 101, 110, 32, 121, 59, 32, 101, 108, 115, 101, 10]⟩] 9)).alloc (.cells #[.string ⟨#[10, 125]⟩, .string ⟨#[10, 41]⟩, .string ⟨#[10, 100, 111, 32, 120, 10, 100, 111, 110, 101]⟩, .string ⟨#[10, 102, 105]⟩, .string ⟨#[10, 125]⟩, .string ⟨#[10, 102, 105]⟩] 9)) :=
            ((Below.refl _ _).alloc (Nat.le_refl _) _).alloc (by simp only [World.size_alloc]; omega) _
          simp only [World.size_alloc] at n2
          refine ⟨HB.out.trans (hbl.mono HB.out.size), hd_at ((Below.heap_alloc _ _ _ (by simp only [World.size_alloc]; omega)).trans n1) hk6, tl_at n2 hk6, by simp only [World.size_alloc]; omega, by simp only [World.size_alloc]; omega, ls_below hbl HV.out⟩
        intro W0 hG
        generalize W.heap.size + 1 = tb at *
        generalize W.heap.size = hb at *
        have l1 := hG.hd
        have l2 := hG.tl
        have z1 := hG.hlt
        have z2 := hG.tlt
        have q1 : (k : Int) < 6 := by omega
        have HG := Lib.hid hG
        clear hG HPX HB HV hk
        generalize a % 6 = r6 at *
        generalize nm (hdT k) = H1 at *
        generalize nm (tlT k) = H2 at *
        have hpy := fun W => HPY.out W
        unfold ParsePost at hpy
        rcases HMA.out with ⟨p, e⟩ | ⟨C, r', e, hC⟩
        · as_aux_lemma =>
            rw [e] at hpy
            have HPZ := Lib.hid hpy
            have HGB := Lib.hid HG.out.below
            clear hpy e HMA HY HPY HG
            go_cut [11, 12, 13] from 39 to 54 (fun x y z wx => x = .slice none 0 0 ∧ (∃ i : Int, y = .int .i64 i) ∧ z = .int .i64 63 ∧ Below w.heap.size w wx)
            case first =>
              have S0 : Hid (W0.drew.cell? ⟨hb, k, none⟩ = some (.string H1) ∧ W0.drew.cell? ⟨tb, k, none⟩ = some (.string H2)) := Lib.hid ⟨l1, l2⟩
              have HPW := Lib.hid (HPZ.out W0.drew)
              go_region_held3 (fun W => W.cell? ⟨hb, k, none⟩ = some (.string H1) ∧ W.cell? ⟨tb, k, none⟩ = some (.string H2))
                (first | (with_reducible exact S0.out) | (with_reducible exact S3.out))
                (first | (go_at_call 8; (refine (HPW.out).mono ?_); rintro e W2 ⟨hb2, h9⟩; have h9 : e = _ := h9; subst h9; have S3 : Hid (W2.cell? ⟨hb, k, none⟩ = some (.string H1) ∧ W2.cell? ⟨tb, k, none⟩ = some (.string H2)) := Lib.hid ⟨(World.cell?_of_block (hb2.block _ z1)).trans l1, (World.cell?_of_block (hb2.block _ z2)).trans l2⟩; have HB2 := Lib.hid (HGB.out.drew.trans (hb2.mono HGB.out.drew.size)); clear hb2))
              all_goals
                go_wp2_with fail
                go_meet
                exact ⟨rfl, ⟨_, rfl⟩, rfl, HB2.out⟩
            case rest =>
              obtain ⟨rfl, ⟨i, rfl⟩, rfl, hB⟩ := hcut
              have HB2 := Lib.hid hB
              clear hB
              go_wp2_with (go_at_call 7; refine (HAW.out _).mono ?_; rintro e W2 ⟨rfl, hb⟩; have HB3 := Lib.hid (HB2.out.trans (hb.mono HB2.out.size)); clear hb)
              go_ret
              exact ⟨rfl, HB3.out⟩
        · rw [e] at hpy
          have HPZ := Lib.hid hpy
          clear hpy e HMA HY HPY
          go_cut [11, 12, 13] from 39 to 54 (fun x y z wx => y = .int .i64 0 ∧ z = .int .i64 0 ∧ Below w.heap.size w wx ∧ LsIn 18 wx (fun _ => True) x [.mk [.mk false [C]] []] ∧ LsIn 18 wx (fun _ => True) (.slice A1 nx d1) xs)
          case first =>
            as_aux_lemma =>
              clear hC
              have S0 : Hid (W0.drew.cell? ⟨hb, k, none⟩ = some (.string H1) ∧ W0.drew.cell? ⟨tb, k, none⟩ = some (.string H2)) := Lib.hid ⟨l1, l2⟩
              have HPW := Lib.hid (HPZ.out W0.drew)
              go_region_held3 (fun W => W.cell? ⟨hb, k, none⟩ = some (.string H1) ∧ W.cell? ⟨tb, k, none⟩ = some (.string H2))
                (first | (with_reducible exact S0.out) | (with_reducible exact S3.out))
                (first | (go_at_call 8; (refine (HPW.out).mono ?_); rintro e W2 ⟨hb2, v2, rfl, hv2⟩; have HV2 := Lib.hid hv2; have HB2 := Lib.hid hb2; have S3 : Hid (W2.cell? ⟨hb, k, none⟩ = some (.string H1) ∧ W2.cell? ⟨tb, k, none⟩ = some (.string H2)) := Lib.hid ⟨(World.cell?_of_block (hb2.block _ z1)).trans l1, (World.cell?_of_block (hb2.block _ z2)).trans l2⟩; clear hb2 hv2))
              all_goals
                go_wp2_with fail
                go_meet
                exact ⟨rfl, rfl, HG.out.below.drew.trans (HB2.out.mono HG.out.below.drew.size), ls_any HV2.out, ls_below HB2.out (ls_drew HG.out.val)⟩
          case rest =>
            obtain ⟨rfl, rfl, hB, hv2, hva⟩ := hcut
            obtain ⟨b, off, c, pb, po, pc, cb, co, cc, vs, rfl, w1, g1, w2, g2, w3, g3, hC2⟩ := list_c hv2
            obtain ⟨kk, nn, al, ws, cd, bd, ot, cs, rs⟩ := C
            obtain ⟨av, wv, cv, bv, ov, sv, rv, rfl, r1, r2, r3, r4, r5, r6, r7, _⟩ := hC2
            obtain ⟨A2', n2', c2', rfl⟩ := r1.form
            obtain ⟨A3', n3', c3', rfl⟩ := r2.form
            obtain ⟨A4', n4', c4', rfl⟩ := LsIn.form r3
            obtain ⟨A5', n5', c5', rfl⟩ := LsIn.form r4
            obtain ⟨A6', n6', c6', rfl⟩ := LsIn.form r5
            obtain ⟨A7', n7', c7', rfl⟩ := r6.form
            obtain ⟨A8', n8', c8', rfl⟩ := r7.form
            have f0 := g3 0 _ rfl
            have f1 := g3 1 _ rfl
            have f2 := g3 2 _ rfl
            have f3 := g3 3 _ rfl
            have f4 := g3 4 _ rfl
            have f5 := g3 5 _ rfl
            have f6 := g3 6 _ rfl
            have f7 := g3 7 _ rfl
            have f8 := g3 8 _ rfl
            simp only [Nat.add_zero] at f0
            obtain ⟨C1, C2, C3, C4⟩ := hC
            have hal : Below wc.heap.size wc (wc.alloc (.cells #[.int .i64 kk, .string (nm nn), .slice A2' n2' c2', .slice A3' n3' c3', .slice A4' n4' c4', .slice A5' n5' c5', .slice A6' n6' c6', .slice A7' n7' c7', .slice A8' n8' c8'] 42)) := (Below.refl _ _).alloc (Nat.le_refl _) _
            have HAL := Lib.hid hal
            have HB2 := Lib.hid hB
            generalize nm nn = K at *
            by_cases k2 : k = 2
            · as_aux_lemma =>
                subst k2
                obtain rfl := C1 rfl
                have HSM := Lib.hid (same_all 18 cd _ _ _ _ _ (LsIn.up 17 (ls_below hal r3)) (ls_below hal hva))
                clear hv2 hva hB r1 r2 r3 r4 r5 r6 r7 g3 HG HPZ C2 C3 C4 hal hxn
                go_wp2_with (first | (go_at_call 9; refine Calls.mono HSM.out ?_; rintro e W5 ⟨rfl, hb⟩; have HB3 := Lib.hid ((HB2.out.trans (HAL.out.mono HB2.out.size)).trans (hb.mono (HB2.out.trans (HAL.out.mono HB2.out.size)).size)); clear hb) | (go_at_call 7; refine (HAW.out _).mono ?_; rintro e W6 ⟨rfl, hb⟩; have HB4 := Lib.hid (HB3.out.trans (hb.mono HB3.out.size)); clear hb))
                go_ret
                exact ⟨rfl, HB4.out⟩
            · by_cases k4 : k = 4
              · as_aux_lemma =>
                  subst k4
                  obtain ⟨q, n, a', w', c2, o2, cs', rs', rfl⟩ := C2 rfl
                  obtain ⟨b9, off9, c9, pb9, po9, pc9, cb9, co9, cc9, vs9, e9, y1, h1, y2, h2, y3, h3, hC9⟩ := list_c r4
                  injection e9 with e1 e2 e3
                  subst e1
                  subst e2
                  subst e3
                  obtain ⟨av9, wv9, cv9, bv9, ov9, sv9, rv9, rfl, _, _, _, t4, _⟩ := hC9
                  obtain ⟨A9, n9, d9, rfl⟩ := LsIn.form t4
                  have h4 := h3 5 _ rfl
                  have HSM := Lib.hid (same_all 18 xs _ _ _ _ _ (LsIn.up 17 (LsIn.up 16 (ls_below hal t4))) (ls_below hal hva))
                  clear hv2 hva hB r1 r2 r3 r4 r5 r6 r7 g3 HG HPZ C1 C2 C3 C4 hal hxn h3 t4
                  go_wp2_with (first | (go_at_call 9; refine Calls.mono HSM.out ?_; rintro e W5 ⟨rfl, hb⟩; have HB3 := Lib.hid ((HB2.out.trans (HAL.out.mono HB2.out.size)).trans (hb.mono (HB2.out.trans (HAL.out.mono HB2.out.size)).size)); clear hb) | (go_at_call 7; refine (HAW.out _).mono ?_; rintro e W6 ⟨rfl, hb⟩; have HB4 := Lib.hid (HB3.out.trans (hb.mono HB3.out.size)); clear hb))
                  go_ret
                  exact ⟨rfl, HB4.out⟩
              · by_cases k5 : k = 5
                · as_aux_lemma =>
                    subst k5
                    obtain rfl := C3 rfl
                    have HSM := Lib.hid (same_all 18 ot _ _ _ _ _ (LsIn.up 17 (ls_below hal r5)) (ls_below hal hva))
                    clear hv2 hva hB r1 r2 r3 r4 r5 r6 r7 g3 HG HPZ C1 C2 C4 hal hxn
                    go_wp2_with (first | (go_at_call 9; refine Calls.mono HSM.out ?_; rintro e W5 ⟨rfl, hb⟩; have HB3 := Lib.hid ((HB2.out.trans (HAL.out.mono HB2.out.size)).trans (hb.mono (HB2.out.trans (HAL.out.mono HB2.out.size)).size)); clear hb) | (go_at_call 7; refine (HAW.out _).mono ?_; rintro e W6 ⟨rfl, hb⟩; have HB4 := Lib.hid (HB3.out.trans (hb.mono HB3.out.size)); clear hb))
                    go_ret
                    exact ⟨rfl, HB4.out⟩
                · as_aux_lemma =>
                    obtain rfl := C4 k2 k4 k5
                    have u2 : ((k : Int) == 2) = false := by rw [beq_eq_false_iff_ne]; omega
                    have u4 : ((k : Int) == 4) = false := by rw [beq_eq_false_iff_ne]; omega
                    have u5 : ((k : Int) == 5) = false := by rw [beq_eq_false_iff_ne]; omega
                    have HSM := Lib.hid (same_all 18 bd _ _ _ _ _ (LsIn.up 17 (ls_below hal r4)) (ls_below hal hva))
                    clear hv2 hva hB r1 r2 r3 r4 r5 r6 r7 g3 HG HPZ C1 C2 C3 hal hxn
                    go_wp2_with (first | (go_at_call 9; refine Calls.mono HSM.out ?_; rintro e W5 ⟨rfl, hb⟩; have HB3 := Lib.hid ((HB2.out.trans (HAL.out.mono HB2.out.size)).trans (hb.mono (HB2.out.trans (HAL.out.mono HB2.out.size)).size)); clear hb) | (go_at_call 7; refine (HAW.out _).mono ?_; rintro e W6 ⟨rfl, hb⟩; have HB4 := Lib.hid (HB3.out.trans (hb.mono HB3.out.size)); clear hb))
                    go_ret
                    exact ⟨rfl, HB4.out⟩

end Go.Proofs.Ytgajbehlggikdaa.Sw
