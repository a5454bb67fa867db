/- Layer 9's statements: awake; CanonTells' and CanonEscapes' walks. -/
import Derived.Test.YtlnjpocidfgloaaDoorCanWrite
import Derived.Test.YtlnjpocidfgloaaDoorRefCan4
namespace Go.Proofs.YtlnjpocidfgloaaDoor
open Go.RowKit
set_option maxHeartbeats 400000
set_option linter.unusedVariables false

/-- nodes that were just laid in a block of their own -/
theorem nodes_lit (w : World) (cs : List Value) (ls : List Nod) (n : Nat) (T : TypeId) (hn : cs.length = n * 4) (hm : n ≤ 1000000) (hi : ItemsF NodI (w.alloc (.cells cs.toArray T)) (fun i => i < (w.alloc (.cells cs.toArray T)).heap.size) cs ls) :
    RdI 4 NodI (w.alloc (.cells cs.toArray T)) (fun i => i < (w.alloc (.cells cs.toArray T)).heap.size) (some ⟨w.heap.size, 0, none⟩) n n ls :=
  ⟨⟨cs, RdS.lit w cs T n hn (by simp only [maxLen]; omega), hi⟩, fun ad e _ => by injection e with e; subst e; simp⟩
theorem nod_bare (u : World) (p : Int) (X Y : ByteArray) : NodI u (fun i => i < u.heap.size) [.int .i64 p, .string X, .string Y, .slice none 0 0] ⟨p, X.data.toList, Y.data.toList, []⟩ :=
  ⟨X, Y, none, 0, 0, rfl, rfl, rfl, RdI.nil_ 2 AttrI u _⟩
def awF : Fo := .cons [97] [] [] (.cons [98] [60] [] .nil .nil) .nil
def awN : List Nod := [⟨-1, [97], [], []⟩, ⟨0, [98], [60], []⟩]
theorem aw_flat : awN = awF.flat (-1) 0 := rfl
theorem aw_right : rightB awN = true := by kernel_rfl
theorem aw_wr : awF.wr = [60, 97, 62, 60, 98, 62, 38, 108, 116, 59, 60, 47, 98, 62, 60, 47, 97, 62] := by kernel_rfl
theorem aw_small : ∀ x ∈ awN, NodS x := by
  intro x hx
  simp only [awN, List.mem_cons, List.not_mem_nil, or_false] at hx
  rcases hx with rfl | rfl
  · exact ⟨by simp, by simp, by simp, fun a h => by cases h⟩
  · exact ⟨by simp, by simp, by simp, fun a h => by cases h⟩
theorem aw_rd (w : World) (T : TypeId) : RdI 4 NodI (w.alloc (.cells #[.int .i64 (-1), .string ⟨#[97]⟩, .string ⟨#[]⟩, .slice none 0 0, .int .i64 0, .string ⟨#[98]⟩, .string ⟨#[60]⟩, .slice none 0 0] T)) (fun i => i < (w.alloc (.cells #[.int .i64 (-1), .string ⟨#[97]⟩, .string ⟨#[]⟩, .slice none 0 0, .int .i64 0, .string ⟨#[98]⟩, .string ⟨#[60]⟩, .slice none 0 0] T)).heap.size) (some ⟨w.heap.size, 0, none⟩) 2 2 awN :=
  nodes_lit w _ awN 2 T rfl (by omega) ⟨_, _, rfl, nod_bare _ (-1) ⟨#[97]⟩ ⟨#[]⟩, ⟨_, _, rfl, nod_bare _ 0 ⟨#[98]⟩ ⟨#[60]⟩, rfl⟩⟩
theorem awake_can (w : World) (hT : Tabs w := by repeat' first | with_reducible assumption | with_reducible apply Tabs.drew | with_reducible apply Tabs.drewN | with_reducible apply Tabs.alloc | refine Tabs.fr ?_ (by with_reducible assumption) | refine Tabs.dr ?_ (by with_reducible assumption)) :
    Calls Tryd.prog 7 #[] w fun e w' => e = .returned (.bool true) ∧ Fr No w w' := by
  obtain ⟨S, hS⟩ : ∃ S, bstr awF.wr = S := ⟨_, rfl⟩
  have hwr := fun T => c_write_yes awF awN aw_flat rfl rfl aw_right aw_small (by rw [aw_wr]; decide) _ 2 2 _ (aw_rd w T) (by omega) hT.alloc
  rw [hS] at hwr
  have hb : (S.toList == [60, 97, 62, 60, 98, 62, 38, 108, 116, 59, 60, 47, 98, 62, 60, 47, 97, 62]) = true := by rw [← hS, bstr_toList, aw_wr]; rfl
  have HW := Lib.hid hwr
  clear hwr hS
  go_enter Tryd.func7, Tryd.ntmps7
  go_wp2_with (go_at_call 8; refine (HW.out _).mono ?_; rintro e w1 ⟨rfl, hf1⟩)
  go_ret
  exact ⟨ret_bool (by simp), ((Fr.refl No w).alloc _).trans hf1⟩

/-- nodes that are not too much: each is small, and so is what they are as a file -/
structure Fits (ls : List Nod) : Prop where
  each : ∀ x ∈ ls, NodS x
  file : ∀ F : Fo, ls = F.flat (-1) 0 → F.wr.length ≤ 1000000000000
theorem tells_can (ls : List Nod) (A : Option Addr) (n c : Nat) (w : World) (hR : RdI 4 NodI w (fun i => i < w.heap.size) A n c ls) (hs : n ≤ 100 → Fits ls) (hT : Tabs w) :
    Calls Tryd.prog 3 #[.slice A n c] w fun e w' => e = .returned (.bool true) ∧ Fr No w w' := by
  have htop := hR.top
  have haw := fun u (hu : Tabs u) => awake_can u hu
  have HAW := Lib.hid haw
  clear haw
  by_cases hn : n ≤ 100
  · have hnI : ¬ (n : Int) > 100 := by omega
    obtain ⟨he, hfile⟩ := hs hn
    have hrc := fun u (hf : Fr No w u) => c_right_any ls A n c _ u (hR.no nod_ok hf) he (by omega) (hT.fr hf)
    have hrr := fun u (hf : Fr No w u) => r_right_any ls A n c _ u (hR.no nod_ok hf) he (by omega)
    cases hb : rightB ls with
    | true =>
      obtain ⟨F, h1, h2, h3, h4, h5, h6⟩ := right_forest ((rightB_iff ls).1 hb)
      have hw := c_write_yes F ls h1 h3 h4 hb he (hfile F h1) A n c w hR (by omega) hT
      have hc := fun u (hf : Fr No w u) => r_canon_yes F ls h1 h3 h4 hb he (hfile F h1) A n c _ u (hR.no nod_ok hf) (by omega)
      rw [hb] at hrc hrr
      generalize bstr F.wr = S at *
      have HW := Lib.hid hw; have HC := Lib.hid hc; have HRC := Lib.hid hrc; have HRR := Lib.hid hrr
      clear hw hc hrc hrr hR hs he hfile hb h1 h2 h3 h4 h5 h6
      go_enter Tryd.func3, Tryd.ntmps3
      go_wp2_with (first
        | (go_at_call 8; refine HW.out.mono ?_; rintro e w1 ⟨rfl, hf1⟩)
        | (go_at_call 9; refine (HC.out _ hf1).mono ?_; rintro e w2 ⟨rfl, hf2⟩; have F2 := hf1.trans hf2)
        | (go_at_call 7; refine (HAW.out _ (hT.fr F2)).mono ?_; rintro e w3 ⟨rfl, hf3⟩; have F3 := F2.trans hf3)
        | (go_at_call 10; refine (HRC.out _ F3).mono ?_; rintro e w4 ⟨rfl, hf4⟩; have F4 := F3.trans hf4)
        | (go_at_call 11; refine (HRR.out _ F4).mono ?_; rintro e w5 ⟨rfl, hf5⟩))
      go_ret
      exact ⟨ret_bool (by simp), F4.trans hf5⟩
    | false =>
      have hw := c_write_no ls hb he A n c _ w hR (by omega) hT
      have hc := fun u (hf : Fr No w u) => r_canon_no ls hb he A n c _ u (hR.no nod_ok hf) (by omega)
      rw [hb] at hrc hrr
      have HW := Lib.hid hw; have HC := Lib.hid hc; have HRC := Lib.hid hrc; have HRR := Lib.hid hrr
      clear hw hc hrc hrr hR hs he hfile hb
      go_enter Tryd.func3, Tryd.ntmps3
      go_wp2_with (first
        | (go_at_call 8; refine HW.out.mono ?_; rintro e w1 ⟨rfl, hf1⟩)
        | (go_at_call 9; refine (HC.out _ hf1).mono ?_; rintro e w2 ⟨rfl, hf2⟩; have F2 := hf1.trans hf2)
        | (go_at_call 7; refine (HAW.out _ (hT.fr F2)).mono ?_; rintro e w3 ⟨rfl, hf3⟩; have F3 := F2.trans hf3)
        | (go_at_call 10; refine (HRC.out _ F3).mono ?_; rintro e w4 ⟨rfl, hf4⟩; have F4 := F3.trans hf4)
        | (go_at_call 11; refine (HRR.out _ F4).mono ?_; rintro e w5 ⟨rfl, hf5⟩))
      go_ret
      exact ⟨ret_bool (by simp), F4.trans hf5⟩
  · have hnI : (n : Int) > 100 := by omega
    clear hR hs hn
    go_enter Tryd.func3, Tryd.ntmps3
    go_wp2_with (go_at_call 7; refine (HAW.out _ hT).mono ?_; rintro e w1 ⟨rfl, hf1⟩)
    go_ret
    exact ⟨rfl, hf1⟩
end Go.Proofs.YtlnjpocidfgloaaDoor
