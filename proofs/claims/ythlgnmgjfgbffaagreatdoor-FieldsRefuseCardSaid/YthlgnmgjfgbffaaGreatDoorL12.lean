/- The texts FldE1, joined. -/
import Derived.Test.YthlgnmgjfgbffaaGreatDoorL04
import Derived.Test.YthlgnmgjfgbffaaGreatDoorL05
import Derived.Test.YthlgnmgjfgbffaaGreatDoorShelf
import Derived.Test.YthlgnmgjfgbffaaGreatDoorL11
import Derived.LoopTactic
/- Package fields: a row of elements, sorted by their numbers. -/
namespace Go.Proofs.YthlgnmgjfgbffaaGreatDoor
open Go.RowKit
set_option maxHeartbeats 1000000
set_option linter.unusedVariables false
set_option maxRecDepth 20000

/-! ### lists -/
theorem rise_perm : ∀ {a b : List El}, a.Perm b → a.Pairwise (fun x y => x.1 < y.1) → b.Pairwise (fun x y => x.1 < y.1) → a = b
  | [], b, h, _, _ => by rw [List.nil_perm.1 h]
  | x :: a, [], h, _, _ => absurd h.length_eq (by simp)
  | x :: a, y :: b, h, ha, hb => by
    obtain ⟨ha1, ha2⟩ := List.pairwise_cons.1 ha
    obtain ⟨hb1, hb2⟩ := List.pairwise_cons.1 hb
    have e : x = y := by
      have hx : x ∈ y :: b := h.subset (List.mem_cons_self ..)
      have hy : y ∈ x :: a := h.symm.subset (List.mem_cons_self ..)
      rcases List.mem_cons.1 hx with hx | hx
      · exact hx
      rcases List.mem_cons.1 hy with hy | hy
      · exact hy.symm
      · have := hb1 x hx
        have := ha1 y hy
        omega
    subst e
    rw [rise_perm (List.Perm.cons_inv h) ha2 hb2]
theorem merge_perm : ∀ (m : Nat) (a b : List El), a.length + b.length ≤ m → (mergeL a b).Perm (a ++ b)
  | m, [], b, _ => by rw [merge_nil]; exact List.Perm.refl _
  | m, x :: a, [], _ => by rw [merge_nil_r, List.append_nil]
  | 0, x :: a, y :: b, h => by simp at h
  | m + 1, x :: a, y :: b, h => by
    simp only [List.length_cons] at h
    rw [merge_cons]
    split
    · exact (merge_perm m a (y :: b) (by simp only [List.length_cons]; omega)).cons x
    · refine ((merge_perm m (x :: a) b (by simp only [List.length_cons]; omega)).cons y).trans ?_
      exact List.perm_middle.symm
/-- an element as the sort sees it: its cells, and its data -/
abbrev SE := (Int × Option Addr × Nat × Nat) × List UInt8
def encS (x : SE) : List Value := [.int .i64 x.1.1, .slice x.1.2.1 x.1.2.2.1 x.1.2.2.2]
def elS (x : SE) : El := (x.1.1, x.2)
theorem items_se {w : World} {N : Nat → Prop} : ∀ {es : List El} {xs : List Value}, ItemsF TagI w N xs es → ∃ ds : List SE, xs = ds.flatMap encS ∧ ds.map elS = es ∧ ∀ x ∈ ds, TagI w N (encS x) (elS x)
  | [], xs, h => ⟨[], h, rfl, fun _ hx => by cases hx⟩
  | a :: es, xs, ⟨cs, rest, e, h1, h2⟩ => by
    obtain ⟨ds, e1, e2, h3⟩ := items_se h2
    have h1' := h1
    obtain ⟨A, n, c, hc, -⟩ := h1
    refine ⟨((a.1, A, n, c), a.2) :: ds, ?_, ?_, ?_⟩
    · rw [e, e1, hc]
      rfl
    · rw [List.map_cons, e2]
      rfl
    · intro x hx
      rcases List.mem_cons.1 hx with rfl | hx
      · have : encS ((a.1, A, n, c), a.2) = cs := hc.symm
        rw [this]
        exact h1'
      · exact h3 x hx
theorem se_items {w : World} {N : Nat → Prop} : ∀ {ds : List SE}, (∀ x ∈ ds, TagI w N (encS x) (elS x)) → ItemsF TagI w N (ds.flatMap encS) (ds.map elS)
  | [], _ => rfl
  | x :: ds, h => ⟨encS x, ds.flatMap encS, rfl, h x (List.mem_cons_self ..), se_items (fun y hy => h y (List.mem_cons_of_mem _ hy))⟩
theorem flat_get : ∀ (ds : List SE) (t : Nat), (ds.flatMap encS)[t]? = (ds[t / 2]?).bind (fun x => (encS x)[t % 2]?)
  | [], t => by simp
  | x :: ds, 0 => rfl
  | x :: ds, 1 => rfl
  | x :: ds, t + 2 => by
    have h1 : (t + 2) / 2 = t / 2 + 1 := by omega
    have h2 : (t + 2) % 2 = t % 2 := by omega
    rw [h1, h2, List.getElem?_cons_succ, ← flat_get ds t]
    show ((encS x) ++ ds.flatMap encS)[t + 2]? = _
    rw [List.getElem?_append_right (by simp [encS])]
    rfl
theorem flat_len (ds : List SE) : (ds.flatMap encS).length = ds.length * 2 := by
  induction ds with
  | nil => rfl
  | cons x ds ih => rw [List.flatMap_cons, List.length_append, ih, List.length_cons]; simp [encS]; omega
theorem flat_at (d : Array SE) (j : Nat) (hj : j < d.size * 2) : (d.toList.flatMap encS)[j]? = some ((Go.Sort.flatK encS 2 d)[j]!) := by
  have hq : j / 2 < d.size := by omega
  rw [flat_get, Go.Sort.get_flatK _ _ _ _ hj]
  have h1 : d.toList[j / 2]? = some d[j / 2]! := by
    rw [Array.getElem?_toList, getElem!_pos d _ hq, Array.getElem?_eq_getElem hq]
  rw [h1, Option.bind_some]
  generalize d[j / 2]! = x
  have h2 : j % 2 = 0 ∨ j % 2 = 1 := by omega
  rcases h2 with h2 | h2
  · rw [h2]; rfl
  · rw [h2]; rfl
/-! ### the program's comparison -/
theorem by_number (x y : SE) (W : World) : Calls Tryz.prog 118 #[.agg #[.int .i64 x.1.1, .slice x.1.2.1 x.1.2.2.1 x.1.2.2.2], .agg #[.int .i64 y.1.1, .slice y.1.2.1 y.1.2.2.1 y.1.2.2.2]] W fun e w' => e = .returned (.int .i64 (Lib.compareInt x.1.1 y.1.1)) ∧ ∃ q os', w' = Go.Sort.grow (W.drewN q) os' := by
  have hcon := fun W' => Tryz.cmp_Compare_int x.1.1 y.1.1 W'
  generalize Lib.compareInt x.1.1 y.1.1 = r at hcon ⊢
  go_enter Tryz.func118, Tryz.ntmps118
  go_wp2_with (go_at_call 166; refine (hcon _).mono ?_; rintro e w' ⟨rfl, rfl⟩)
  go_ret
  exact ⟨rfl, 0, _, by rw [Go.Sort.alloc_eq_grow, Go.Sort.alloc_eq_grow, Go.Sort.grow_grow]; rfl⟩
theorem lt_no (x y : SE) : ltOf (fun x y : SE => Lib.compareInt x.1.1 y.1.1) x y = decide (x.1.1 < y.1.1) := by
  unfold ltOf Lib.compareInt
  by_cases h1 : x.1.1 < y.1.1
  · simp [h1]
  · by_cases h2 : y.1.1 < x.1.1 <;> simp [h1, h2]
theorem swo_no : Go.Sort.SWO (ltOf fun x y : SE => Lib.compareInt x.1.1 y.1.1) where
  irrefl x := by rw [lt_no]; simp
  trans x y z h1 h2 := by rw [lt_no] at *; simp at *; omega
  ntrans x y z h1 h2 := by rw [lt_no] at *; simp at *; omega
theorem fr_sorted (w : World) (g m : Nat) (d : Array SE) (os : Array Obj) : Fr (Just g) w (sortWorldK encS 2 w g 0 m d os) := by
  refine ⟨rfl, rfl, rfl, ?_, fun k hk hn => ?_⟩
  · show w.heap.size ≤ ((w.heap.modify g _) ++ os).size
    simp
  · show ((w.heap.modify g _) ++ os)[k]? = w.heap[k]?
    rw [Array.getElem?_append_left (by simpa using hk), Array.getElem?_modify, if_neg (fun e => hn (by rw [← e]; exact Just.at g))]
/-- a row of elements, sorted -/
theorem sort_elms {w : World} {N : Nat → Prop} {g n c : Nat} {es : List El} {xs : List Value} (hx : RdS w 2 (some ⟨g, 0, none⟩) n c xs) (hi : ItemsF TagI w N xs es) (hz : ∀ i, w.frozen? ⟨g, i, none⟩ = false) (hg : g < w.heap.size) (hN : ∀ i, N i → i ≠ g) (hn : n ≤ 1000000) (hr : ∃ rs : List El, rs.Perm es ∧ (nosOf rs).Pairwise (· < ·)) :
    Calls Tryz.prog 117 #[.slice (some ⟨g, 0, none⟩) n c, .func (.func 118) #[] #[]] w fun e w' => e = .returned (.tuple #[]) ∧ ∃ rs, rs.Perm es ∧ (nosOf rs).Pairwise (· < ·) ∧ RdI 2 TagI w' (fun i => N i ∨ i = g) (some ⟨g, 0, none⟩) n c rs ∧ Fr (Just g) w w' := by
  obtain ⟨ds, rfl, hes, ht⟩ := items_se hi
  have hdn : ds.length = n := by
    have := hx.len
    rw [flat_len] at this
    omega
  have had : ∀ j, (⟨g, 0, none⟩ : Addr).add j = ⟨g, j, none⟩ := fun j => by unfold Addr.add; split <;> simp_all
  have hH : Go.Sort.HoldsK encS 2 w g 0 ds.toArray := by
    intro j hj
    rw [Go.Sort.size_flatK] at hj
    have h1 := flat_at ds.toArray j hj
    have h2 := hx.cells _ rfl j _ h1
    rw [had] at h2
    rw [Nat.zero_add]
    exact ⟨h2, hz j⟩
  have hsz : ds.toArray.size = n := by simpa using hdn
  have hcall := AnyQ.slices_SortFunc Tryz.sortE 2 Tryz.isAgg24 Tryz.sizeOf24 encS (fun _ => rfl) (fun x v hv => by simp [encS] at hv; rcases hv with rfl | rfl <;> rfl) (fun x y => Lib.compareInt x.1.1 y.1.1) swo_no 118 #[] g 0 c ds.toArray w (fun _ _ => rfl) (fun _ _ _ _ x y => by_number x y _) hH hg (by omega)
  rw [hsz] at hcall
  refine Calls.mono (f := 117) hcall ?_
  rintro e w' ⟨rfl, d', m, os, hp, hs, rfl⟩
  have hd' : d'.size = n := by rw [hp.1, hsz]
  have hpl : d'.toList.Perm ds := by
    have h1 := hp.2.2
    have e1 : d'.extract 0 n = d' := by rw [← hd']; simp
    have e2 : ds.toArray.extract 0 n = ds.toArray := by rw [← hsz]; simp
    rw [e1, e2] at h1
    simpa using h1
  have hpe : (d'.toList.map elS).Perm es := by
    rw [← hes]
    exact hpl.map elS
  have hfr := fr_sorted w g m d' os
  refine ⟨rfl, d'.toList.map elS, hpe, ?_, ⟨⟨d'.toList.flatMap encS, ⟨?_, hx.cap, hx.max, (fun e => nomatch e), ?_⟩, ?_⟩, fun ad e _ => ?_⟩, hfr⟩
  · obtain ⟨rs, h1, h2⟩ := hr
    have hnd : (nosOf (d'.toList.map elS)).Nodup := by
      have h3 : (nosOf rs).Nodup := h2.imp (fun h => by omega)
      exact ((h1.trans hpe.symm).map Prod.fst).nodup_iff.1 h3
    have hle : (nosOf (d'.toList.map elS)).Pairwise (· ≤ ·) := by
      rw [List.pairwise_iff_getElem]
      intro i j hi hj hij
      have hi2 : i < d'.size := by simpa [nosOf] using hi
      have hj2 : j < d'.size := by simpa [nosOf] using hj
      have h5 := hs i j (Nat.zero_le _) hij (by omega)
      rw [lt_no] at h5
      have h6 : ¬ (d'[j]!).1.1 < (d'[i]!).1.1 := of_decide_eq_false h5
      rw [getElem!_pos d' j hj2, getElem!_pos d' i hi2] at h6
      simp only [nosOf, List.getElem_map, Array.getElem_toList, elS]
      omega
    exact (hle.and hnd).imp (fun h => by have h1 := h.1; have h2 := h.2; omega)
  · rw [flat_len]
    simp [hd']
  · intro ad e j u hu
    injection e with e
    subst e
    have hj : j < d'.size * 2 := by
      have := (List.getElem?_eq_some_iff.1 hu).1
      rw [flat_len] at this
      simpa using this
    have hH' : Go.Sort.HoldsK encS 2 (sortWorldK encS 2 w g 0 m d' os) g 0 d' := holdsK_sortWorldK_c encS 2 w g 0 ds.toArray d' m os hH hg (by rw [hd', hsz])
    have h1 := (hH' j (by rw [Go.Sort.size_flatK]; exact hj)).1
    rw [Nat.zero_add] at h1
    rw [had, h1]
    rw [flat_at d' j hj] at hu
    exact hu
  · refine ItemsF.mono tag_ok (N := N) (se_items (fun x hx2 => ?_)) (fun i hi => .inl hi)
    exact tag_ok.fr (ht x (hpl.subset hx2)) hfr (fun i hi e => hN i hi e)
  · injection e with e
    subst e
    exact .inr rfl
end Go.Proofs.YthlgnmgjfgbffaaGreatDoor
