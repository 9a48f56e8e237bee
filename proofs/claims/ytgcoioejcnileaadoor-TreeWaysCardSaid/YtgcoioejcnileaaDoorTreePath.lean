/- DERIVED. The walk of Path of package tree. -/
import Derived.Test.YtgcoioejcnileaaDoorTreeNames
namespace Go.Proofs.YtgcoioejcnileaaDoor
open Go.RowKit Go.Sort
open PathM TreeM
set_option linter.unusedVariables false

/-- What a tree that may be has. -/
theorem check_facts {t : Tr} (h : checkB t = true) : Rising t.nodes ∧ t.nodes.length ≤ 512 ∧ 0 < t.nodes.length ∧ place t.nodes 1 < t.nodes.length ∧ (∀ x ∈ flat t.nodes, place t.nodes x.to < t.nodes.length) ∧
    (way t.nodes).length = t.nodes.length ∧ (∀ i, i < t.nodes.length → entsB (ndAt t.nodes i).es = true) := by
  obtain ⟨hh, hn, hp, hl, hr⟩ := check_parts h
  obtain ⟨k1, k2, k3, k4⟩ := head_parts hh
  exact ⟨check_rising h, k2, by omega, place_lt (i := 0) (by omega) k3, fun x hx => (led_mem hl hx).1, by simpa [reachedB] using hr, fun i hi => check_ents h hi⟩
theorem way_fr (nodes : List Nd) : ∀ j, 0 < j → j < (way nodes).length → (itAt (way nodes) j).fr < j := fun j h0 hj => (way_ln nodes).fr h0 hj
theorem flatS_bound : ∀ (ns : List Bs), (∀ n ∈ ns, n.length ≤ 64) → (flatS ns).length ≤ ns.length * 65 := by
  intro ns
  induction ns with
  | nil => intro _; simp [flatS]
  | cons a l ih =>
    intro h
    have := ih (fun n hn => h n (by simp [hn]))
    have ha := h a (by simp)
    simp only [flatS, List.map_cons, List.flatten_cons, List.length_append, List.length_cons] at this ⊢
    omega
theorem names_fit {nodes : List Nd} (hn : ∀ i, i < nodes.length → entsB (ndAt nodes i).es = true) (hl : (way nodes).length ≤ 512) {k : Nat} (hk : k < (way nodes).length) :
    (back (way nodes) (way nodes).length k).reverse.length ≤ 512 ∧ (Lib.join (back (way nodes) (way nodes).length k).reverse [47]).length ≤ 33280 ∧ (itAt (way nodes) k).path = pathOf (back (way nodes) (way nodes).length k).reverse ∧ (itAt (way nodes) k).path.length ≤ 33281 := by
  obtain ⟨h1, h2⟩ := back_names (way_wy nodes) (way_ln nodes) hn (way nodes).length k (by omega) hk
  have h3 := back_len (l := way nodes) (way nodes).length k
  have h4 := flatS_bound (back (way nodes) (way nodes).length k).reverse (fun n hm => (nameB_parts (h1 n (List.mem_reverse.1 hm))).2.2)
  rw [List.length_reverse] at h4
  have h5 := rootJ_join (back (way nodes) (way nodes).length k).reverse
  have h6 : (rootJ (back (way nodes) (way nodes).length k).reverse).length ≤ 33281 := by
    unfold rootJ; split
    · simp
    · omega
  refine ⟨by rw [List.length_reverse]; omega, ?_, h2, ?_⟩
  · have := congrArg List.length h5
    simp only [List.length_cons] at this
    omega
  · rw [h2, pathOf_rootJ]; exact h6

/-- The first path to a node. -/
def pathI (t : Tr) (id : Int) : Bs × Bool :=
  if checkB t = true then (if met (way t.nodes) id = true then ((itAt (way t.nodes) (metAt (way t.nodes) id)).path, true) else ([], false)) else ([], false)
theorem ret_sb {a b : ByteArray} {x y : Bool} (h : a = b) (h2 : x = y) : Ending.returned (.tuple #[.string a, .bool x]) = .returned (.tuple #[.string b, .bool y]) := by rw [h, h2]

/-- strings.Join of names that a call made. -/
theorem join_names {w : World} {B : Nat} {v : Value} {ns : List Bs} (h : NamesIn w B v ns) (hn : ns.length ≤ 512) (hl : (Lib.join ns [47]).length ≤ 33280) :
    Calls Tryd.prog 49 #[v, .string ⟨#[47]⟩] w fun e w' => e = .returned (.string (nm (Lib.join ns [47]))) ∧ Below w.heap.size w w' := by
  rcases h with ⟨rfl, rfl⟩ | ⟨g, cap, rfl, h1, h2, h3, h4⟩
  · refine (Tryd.strings_Join_none none 0 ⟨#[47]⟩ w).mono ?_
    rintro e w' ⟨rfl, rfl⟩
    exact ⟨rfl, Below.refl _ _⟩
  · have hm : (ns.map nm).map (·.data.toList) = ns := by
      rw [List.map_map]; exact (List.map_congr_left (fun x _ => nm_data x)).trans (List.map_id _)
    have hJ := Tryd.strings_Join g 0 cap (ns.map nm) ⟨#[47]⟩ w h4 h2 (by simp; omega) (by simp; exact h1) (by rw [hm]; exact Nat.le_trans hl (by decide))
    rw [List.length_map, hm] at hJ
    exact hJ

set_option maxRecDepth 100000 in
set_option maxHeartbeats 4000000 in
theorem path_any (nv : Value) (t : Tr) (id : Int) (B : Nat) (w : World) (hN : NodesIn w B nv t.nodes) (hB : B ≤ w.heap.size) (hid : -9223372036854775808 ≤ id ∧ id ≤ 9223372036854775807) :
    Calls Tryd.prog 25 #[trV nv t, .int .i64 id] w fun e w' => e = .returned (.tuple #[.string (nm (pathI t id).1), .bool (pathI t id).2]) ∧ Below w.heap.size w w' := by
  have hN0 := hN.more hB
  have hc := fun W (hW : Below w.heap.size w W) => check_any nv t w.heap.size W (hN0.below hW) hW.size
  obtain ⟨ck, hck⟩ : ∃ ck, checkI t = ck := ⟨_, rfl⟩
  rw [hck] at hc
  cases hb : checkB t with
  | false =>
    have hp : pathI t id = ([], false) := by unfold pathI; rw [hb]; rfl
    have hck2 : ck = 80 := by rw [← hck]; unfold checkI; rw [hb]; rfl
    subst hck2
    obtain ⟨A, c, rfl⟩ := nodes_len hN
    have HC := Lib.hid hc
    rw [hp]
    clear hc hp hN hN0 hb hck
    unfold trV at *
    generalize t.nodes.length = n at *
    generalize t.last = la at *
    generalize t.rn = rn at *
    generalize t.rb = rb at *
    go_enter Tryd.func25, Tryd.ntmps25
    go_wp2_with (go_at_call 11; refine (HC.out _ ((Below.refl _ _).alloc (Nat.le_refl _) _)).mono ?_; rintro e w1 ⟨rfl, hb1⟩; have c0 : w1.cell? ⟨w.heap.size, 0, none⟩ = some (.slice A n c) := (hb1.cell (p := ⟨w.heap.size, 0, none⟩) (by simp)).trans (by simp); have c1 : w1.cell? ⟨w.heap.size, 1, none⟩ = some (.int .i64 la) := (hb1.cell (p := ⟨w.heap.size, 1, none⟩) (by simp)).trans (by simp); have c2 : w1.cell? ⟨w.heap.size, 2, none⟩ = some (.int .i64 rn) := (hb1.cell (p := ⟨w.heap.size, 2, none⟩) (by simp)).trans (by simp); have c3 : w1.cell? ⟨w.heap.size, 3, none⟩ = some (.int .i64 rb) := (hb1.cell (p := ⟨w.heap.size, 3, none⟩) (by simp)).trans (by simp); have HB1 := Lib.hid (((Below.refl w.heap.size w).alloc (Nat.le_refl _) _).trans (hb1.mono (Nat.le_of_lt (alloc_lt _ _)))); have hlt1 : w.heap.size < w1.heap.size := Nat.lt_of_lt_of_le (alloc_lt w _) hb1.size; clear hb1)
    go_ret2
    exact ⟨rfl, HB1.out⟩
  | true =>
    have hck2 : ck = 0 := by rw [← hck]; unfold checkI; rw [hb]; rfl
    subst hck2
    obtain ⟨hri, hn, hpos, hp1, hled, hwl, hents⟩ := check_facts hb
    have hw := fun W (hW : Below w.heap.size w W) => way_any nv t w.heap.size W (hN0.below hW) hW.size hri hn hp1 hled
    obtain ⟨A, c, rfl⟩ := nodes_len hN
    have hp : pathI t id = if met (way t.nodes) id = true then ((itAt (way t.nodes) (metAt (way t.nodes) id)).path, true) else ([], false) := by unfold pathI; rw [hb]; rfl
    have hfit := fun k (hk : k < (way t.nodes).length) => names_fit hents (by omega) hk
    have hnames := fun (v : Value) (base k : Nat) (W : World) hrow (hk : k < (way t.nodes).length) => names_any v (way t.nodes) base k W hrow hk (by omega) (way_fr t.nodes)
    have hml : met (way t.nodes) id = true → metAt (way t.nodes) id < (way t.nodes).length := metAt_lt
    have HC := Lib.hid hc; have HW := Lib.hid hw; have HFIT := Lib.hid hfit; have HNM := Lib.hid hnames; have HML := Lib.hid hml
    rw [hp]
    have hmf : metF (way t.nodes) id = if met (way t.nodes) id = true then some (metAt (way t.nodes) id : Int) else none := rfl
    clear hc hw hfit hnames hml hp hN hN0 hck hri hp1 hled hwl hents hpos
    unfold trV at *
    generalize way t.nodes = L at *
    generalize t.nodes.length = n at *
    generalize t.last = la at *
    generalize t.rn = rn at *
    generalize t.rb = rb at *
    cases hm : met L id with
    | false =>
      rw [hm] at hmf
      rw [if_neg (by simp)] at hmf ⊢
      have HMF := Lib.hid hmf; clear hmf hm
      go_enter Tryd.func25, Tryd.ntmps25
      go_wp2_with (go_at_call 11; refine (HC.out _ ((Below.refl _ _).alloc (Nat.le_refl _) _)).mono ?_; rintro e w1 ⟨rfl, hb1⟩; have c0 : w1.cell? ⟨w.heap.size, 0, none⟩ = some (.slice A n c) := (hb1.cell (p := ⟨w.heap.size, 0, none⟩) (by simp)).trans (by simp); have c1 : w1.cell? ⟨w.heap.size, 1, none⟩ = some (.int .i64 la) := (hb1.cell (p := ⟨w.heap.size, 1, none⟩) (by simp)).trans (by simp); have c2 : w1.cell? ⟨w.heap.size, 2, none⟩ = some (.int .i64 rn) := (hb1.cell (p := ⟨w.heap.size, 2, none⟩) (by simp)).trans (by simp); have c3 : w1.cell? ⟨w.heap.size, 3, none⟩ = some (.int .i64 rb) := (hb1.cell (p := ⟨w.heap.size, 3, none⟩) (by simp)).trans (by simp); have HB1 := Lib.hid (((Below.refl w.heap.size w).alloc (Nat.le_refl _) _).trans (hb1.mono (Nat.le_of_lt (alloc_lt _ _)))); have hlt1 : w.heap.size < w1.heap.size := Nat.lt_of_lt_of_le (alloc_lt w _) hb1.size; clear hb1)
      go_wp2_with (go_at_call 47; refine (HW.out _ HB1.out).mono ?_; rintro e w2 ⟨v, mb, rfl, hrow, hmap, hmb, hb2⟩; have hlk := hmap.look_ok id hid; rw [HMF.out, Option.getD_none, Option.isSome_none] at hlk; have HB2 := Lib.hid (HB1.out.trans (hb2.mono HB1.out.size)); clear hrow hmap hb2)
      go_ret2
      exact ⟨rfl, HB2.out⟩
    | true =>
      rw [hm] at hmf
      rw [if_pos rfl] at hmf ⊢
      have hk := HML.out hm
      obtain ⟨f1, f2, f3, f4⟩ := HFIT.out _ hk
      have HMF := Lib.hid hmf; clear hmf hm
      have HN2 := Lib.hid (fun v base W hrow => HNM.out v base (metAt L id) W hrow hk)
      generalize hns : (back L L.length (metAt L id)).reverse = ns at *
      have hj := join_pathOf ns
      have hjn := fun W => join_any ⟨#[47]⟩ (nm (Lib.join ns [47])) W (by rw [nm_size]; unfold maxLen; show 1 + (Lib.join ns [47]).length + 1 ≤ 9223372036854775807; omega)
      rw [nm_data] at hjn
      have HJN := Lib.hid hjn
      have HJ : Hid (nm (joinL [47] (Lib.join ns [47])) = nm (itAt L (metAt L id)).path) := Lib.hid (by rw [hj, f3])
      have HF1 := Lib.hid f1; have HF2 := Lib.hid f2
      clear hjn hj f1 f2 f3 f4 hns hk
      generalize nm (itAt L (metAt L id)).path = PP at *
      generalize metAt L id = k at *
      go_enter Tryd.func25, Tryd.ntmps25
      go_wp2_with (go_at_call 11; refine (HC.out _ ((Below.refl _ _).alloc (Nat.le_refl _) _)).mono ?_; rintro e w1 ⟨rfl, hb1⟩; have c0 : w1.cell? ⟨w.heap.size, 0, none⟩ = some (.slice A n c) := (hb1.cell (p := ⟨w.heap.size, 0, none⟩) (by simp)).trans (by simp); have c1 : w1.cell? ⟨w.heap.size, 1, none⟩ = some (.int .i64 la) := (hb1.cell (p := ⟨w.heap.size, 1, none⟩) (by simp)).trans (by simp); have c2 : w1.cell? ⟨w.heap.size, 2, none⟩ = some (.int .i64 rn) := (hb1.cell (p := ⟨w.heap.size, 2, none⟩) (by simp)).trans (by simp); have c3 : w1.cell? ⟨w.heap.size, 3, none⟩ = some (.int .i64 rb) := (hb1.cell (p := ⟨w.heap.size, 3, none⟩) (by simp)).trans (by simp); have HB1 := Lib.hid (((Below.refl w.heap.size w).alloc (Nat.le_refl _) _).trans (hb1.mono (Nat.le_of_lt (alloc_lt _ _)))); have hlt1 : w.heap.size < w1.heap.size := Nat.lt_of_lt_of_le (alloc_lt w _) hb1.size; clear hb1)
      go_wp2_with (go_at_call 47; refine (HW.out _ HB1.out).mono ?_; rintro e w2 ⟨v, mb, rfl, hrow, hmap, hmb, hb2⟩; have hlk := hmap.look_ok id hid; rw [HMF.out, Option.getD_some, Option.isSome_some] at hlk; have HB2 := Lib.hid (HB1.out.trans (hb2.mono HB1.out.size)); have HROW := Lib.hid hrow; clear hrow hmap hb2)
      go_wp2_with (go_at_call 50; refine (HN2.out _ _ _ HROW.out).mono ?_; rintro e w3 ⟨v3, rfl, hns3, hb3⟩; have HB3 := Lib.hid (HB2.out.trans (hb3.mono HB2.out.size)); have HNS3 := Lib.hid hns3; clear hns3 hb3)
      go_wp2_with (go_at_call 49; refine (join_names HNS3.out HF1.out HF2.out).mono ?_; rintro e w4 ⟨rfl, hb4⟩; have HB4 := Lib.hid (HB3.out.trans (hb4.mono HB3.out.size)); clear hb4)
      go_wp2_with (go_at_call 48; refine (HJN.out _).mono ?_; rintro e w5 ⟨rfl, rfl⟩)
      go_ret2
      exact ⟨ret_sb HJ.out rfl, HB4.out⟩

end Go.Proofs.YtgcoioejcnileaaDoor
