/- CanonEscapes' walk, for every text. -/
import Derived.Test.YtlnjpocidfgloaaDoorCanAwake
namespace Go.Proofs.YtlnjpocidfgloaaDoor
open Go.RowKit
set_option maxHeartbeats 400000
set_option linter.unusedVariables false

def esN (s : List UInt8) : List Nod := [⟨-1, [97], s, [([98], s)]⟩]
def esF (s : List UInt8) : Fo := .cons [97] s [([98], s)] .nil .nil
theorem es_flat (s : List UInt8) : esN s = (esF s).flat (-1) 0 := rfl
theorem es_right (s : List UInt8) : rightB (esN s) = utf8B s := by
  unfold rightB esN
  simp only [List.length_cons, List.length_nil, List.tail_cons, nestP, List.all_cons, List.all_nil, List.head?_cons, Option.map_some, soundB, attrB, unlikeB, List.map_cons, List.map_nil]
  cases utf8B s <;> rfl
theorem es1_right (s : List UInt8) : rightB [⟨-1, [97], s, []⟩] = utf8B s := by
  unfold rightB
  simp only [List.length_cons, List.length_nil, List.tail_cons, nestP, List.all_cons, List.all_nil, List.head?_cons, Option.map_some, soundB, unlikeB, List.map_nil]
  cases utf8B s <;> rfl
theorem es_small {s : List UInt8} (h : s.length ≤ 300) : ∀ x ∈ esN s, NodS x := by
  intro x hx
  simp only [esN, List.mem_cons, List.not_mem_nil, or_false] at hx
  subst hx
  exact ⟨by simp, by simp; omega, by simp, fun a h' => by simp at h'; subst h'; exact ⟨by simp, by simp; omega⟩⟩
theorem es_wr (s : List UInt8) : (esF s).wr = if s = [] then [60, 97, 32, 98, 61, 34, 34, 47, 62] else [60, 97, 32, 98, 61, 34] ++ (escL s ++ ([34, 62] ++ (escL s ++ [60, 47, 97, 62]))) := by
  by_cases h : s = []
  · subst h; rfl
  · rw [if_neg h]
    simp [esF, Fo.wr, attrW, h]
theorem es_len {s : List UInt8} (h : s.length ≤ 300) : (esF s).wr.length ≤ 1000000000000 := by
  have := (escL_len s).2
  rw [es_wr]
  split
  · decide
  · simp; omega
theorem es_rd (w : World) (S : ByteArray) (T1 T2 : TypeId) : RdI 4 NodI ((w.alloc (.cells #[.string ⟨#[98]⟩, .string S] T1)).alloc (.cells #[.int .i64 (-1), .string ⟨#[97]⟩, .string S, .slice (some ⟨w.heap.size, 0, none⟩) 1 1] T2)) (fun i => i < ((w.alloc (.cells #[.string ⟨#[98]⟩, .string S] T1)).alloc (.cells #[.int .i64 (-1), .string ⟨#[97]⟩, .string S, .slice (some ⟨w.heap.size, 0, none⟩) 1 1] T2)).heap.size) (some ⟨w.heap.size + 1, 0, none⟩) 1 1 (esN S.data.toList) := by
  have hu : (w.alloc (.cells #[.string ⟨#[98]⟩, .string S] T1)).heap.size = w.heap.size + 1 := by simp
  have h1 : RdI 2 AttrI (w.alloc (.cells #[.string ⟨#[98]⟩, .string S] T1)) (fun i => i < w.heap.size + 2) (some ⟨w.heap.size, 0, none⟩) 1 1 [([98], S.data.toList)] :=
    ⟨⟨_, RdS.lit w [.string ⟨#[98]⟩, .string S] T1 1 rfl (by simp [maxLen]), ItemsF.single ⟨⟨#[98]⟩, S, rfl, rfl, rfl⟩⟩, fun ad e _ => by injection e with e; subst e; show w.heap.size < _; omega⟩
  have h2 := nodes_lit (w.alloc (.cells #[.string ⟨#[98]⟩, .string S] T1)) [.int .i64 (-1), .string ⟨#[97]⟩, .string S, .slice (some ⟨w.heap.size, 0, none⟩) 1 1] (esN S.data.toList) 1 T2 rfl (by omega)
    (ItemsF.single ⟨⟨#[97]⟩, S, _, 1, 1, rfl, rfl, rfl, (h1.no attr_ok ((Fr.refl No _).alloc _)).mono attr_ok (fun i hi => by simp; omega)⟩)
  rw [hu] at h2
  exact h2
set_option maxRecDepth 20000 in
theorem escapes_walk {S : ByteArray} (w : World) (hT : Tabs w) (hS : S.size ≤ 9223372036854775807) : Calls Tryd.prog 6 #[.string S] w fun e w' => e = .returned (.bool true) ∧ Fr No w w' := by
  have haw := fun u (hu : Tabs u) => awake_can u hu
  have HAW := Lib.hid haw
  clear haw
  by_cases hn : S.size ≤ 300
  · have hnI : ¬ (S.size : Int) > 300 := by omega
    have hsl : S.data.toList.length ≤ 300 := by rw [size_list]; exact hn
    cases hu : utf8B S.data.toList with
    | false =>
      have hw := fun T1 T2 => c_write_no (esN S.data.toList) (by rw [es_right]; exact hu) (es_small hsl) _ 1 1 _ _ (es_rd w S T1 T2) (by omega) hT.alloc.alloc
      have hr := fun u T (hu2 : Tabs u) => c_right_any [⟨-1, [97], S.data.toList, []⟩] _ 1 1 _ (u.alloc (.cells #[.int .i64 (-1), .string ⟨#[97]⟩, .string S, .slice none 0 0] T)) (nodes_lit u _ _ 1 T rfl (by omega) (ItemsF.single (nod_bare _ (-1) ⟨#[97]⟩ S))) (fun x hx => by simp at hx; subst hx; exact ⟨by simp, by show S.data.toList.length ≤ _; omega, by simp, fun a h' => by cases h'⟩) (by omega) hu2.alloc
      rw [es1_right, hu] at hr
      have HW := Lib.hid hw; have HR := Lib.hid hr
      clear hw hr hu hsl
      go_enter Tryd.func6, Tryd.ntmps6
      go_wp2_with (first
        | (go_at_call 8; refine (HW.out _ _).mono ?_; rintro e w1 ⟨rfl, hf1⟩; have F1 := (((Fr.refl No w).alloc _).alloc _).trans hf1)
        | (go_at_call 7; refine (HAW.out _ (hT.fr F1)).mono ?_; rintro e w3 ⟨rfl, hf3⟩; have F3 := F1.trans hf3)
        | (go_at_call 10; refine (HR.out _ _ (hT.fr F3)).mono ?_; rintro e w4 ⟨rfl, hf4⟩))
      go_ret
      exact ⟨rfl, (F3.alloc _).trans hf4⟩
    | true =>
      have hw := fun T1 T2 => c_write_yes (esF S.data.toList) (esN S.data.toList) (es_flat _) rfl rfl (by rw [es_right]; exact hu) (es_small hsl) (es_len hsl) _ 1 1 _ (es_rd w S T1 T2) (by omega) hT.alloc.alloc
      obtain ⟨X, hX⟩ : ∃ X, bstr (esF S.data.toList).wr = X := ⟨_, rfl⟩
      have hXl : X.data.toList = (esF S.data.toList).wr := by rw [← hX]; rfl
      rw [hX] at hw
      obtain ⟨E, hE⟩ : ∃ E, bstr (escL S.data.toList) = E := ⟨_, rfl⟩
      have hEl : E.data.toList = escL S.data.toList := by rw [← hE]; rfl
      have hEs : E.size ≤ 1800 := by rw [← size_list, hEl]; have := (escL_len S.data.toList).2; omega
      have hes := fun u => r_esc_any S E u (by omega) hEl
      rw [es_wr] at hXl
      have HW := Lib.hid hw; have HES := Lib.hid hes
      by_cases h0 : S.data.toList = []
      · have hem : S.toList.isEmpty = true := by rw [ba_list, h0]; rfl
        rw [if_pos h0] at hXl
        have hb : (X.toList == [60, 97, 32, 98, 61, 34, 34, 47, 62]) = true := by rw [ba_list, hXl]; rfl
        clear hw hes hXl hX hE hEl h0 hu hsl
        go_enter Tryd.func6, Tryd.ntmps6
        go_wp2_with (first
          | (go_at_call 8; refine (HW.out _ _).mono ?_; rintro e w1 ⟨rfl, hf1⟩; have F1 := (((Fr.refl No w).alloc _).alloc _).trans hf1)
          | (go_at_call 12; refine (HES.out _).mono ?_; rintro e w2 ⟨rfl, rfl⟩)
          | (go_at_call 7; refine (HAW.out _ (hT.fr F1)).mono ?_; rintro e w3 ⟨rfl, hf3⟩))
        go_ret
        exact ⟨ret_bool (by simp), F1.trans hf3⟩
      · have hem : S.toList.isEmpty = false := by rw [ba_list]; cases hh : S.data.toList with
          | nil => exact absurd hh h0
          | cons => rfl
        rw [if_neg h0] at hXl
        obtain ⟨Z, hZ⟩ : ∃ Z, (⟨#[60, 97, 32, 98, 61, 34]⟩ ++ E ++ ⟨#[34, 62]⟩ ++ E ++ ⟨#[60, 47, 97, 62]⟩ : ByteArray) = Z := ⟨_, rfl⟩
        have hXZ : X = Z := by
          rw [← bstr_self X, ← bstr_self Z, hXl, ← hZ, app_list, app_list, app_list, app_list, hEl]
          simp
        subst hXZ
        clear hw hes hXl hX hE hEl h0 hu hsl
        go_enter Tryd.func6, Tryd.ntmps6
        go_wp2_with (first
          | (go_at_call 8; refine (HW.out _ _).mono ?_; rintro e w1 ⟨rfl, hf1⟩; have F1 := (((Fr.refl No w).alloc _).alloc _).trans hf1)
          | (go_at_call 12; refine (HES.out _).mono ?_; rintro e w2 ⟨rfl, rfl⟩)
          | (go_at_call 7; refine (HAW.out _ (hT.fr F1)).mono ?_; rintro e w3 ⟨rfl, hf3⟩))
        go_ret
        exact ⟨ret_bool (by simp), F1.trans hf3⟩
  · have hnI : (S.size : Int) > 300 := by omega
    go_enter Tryd.func6, Tryd.ntmps6
    go_wp2_with (go_at_call 7; refine (HAW.out _ hT).mono ?_; rintro e w1 ⟨rfl, hf1⟩)
    go_ret
    exact ⟨rfl, hf1⟩
end Go.Proofs.YtlnjpocidfgloaaDoor
