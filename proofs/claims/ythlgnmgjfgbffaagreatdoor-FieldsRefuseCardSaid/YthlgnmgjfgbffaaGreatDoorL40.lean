/- The texts EleRead, joined. -/
import Derived.Test.YthlgnmgjfgbffaaGreatDoorL28
import Derived.Test.YthlgnmgjfgbffaaGreatDoorL02
import Derived.Test.YthlgnmgjfgbffaaGreatDoorL03
import Derived.BigQuiet
import Derived.Deep.RegionLaw
/- Package element: Read. -/
namespace Go.Proofs.YthlgnmgjfgbffaaGreatDoor
open Go.RowKit
set_option maxHeartbeats 400000
set_option linter.unusedVariables false
set_option maxRecDepth 20000

theorem pt_take_short {w : World} {g : Nat} {t : TypeId} {no : Int} {D : Value} {r : FRow} {n : Int} {A : Option Addr} {m c k : Nat} (h : Pt w g t [.slice A m c] no D r n) (hk : m < k) :
    Calls Tryz.prog 220 #[.pointer (some ⟨g, 0, none⟩), .int .i64 (k : Int)] w fun e w' => e = .returned (.tuple #[.slice none 0 0, .int .i64 3]) ∧ w = w' := by
  have c7 := Bk.cell h 7
  have hI : (m : Int) < (k : Int) := by omega
  clear h hk
  go_enter Tryz.func220, Tryz.ntmps220
  go_wp2
  go_ret2
  exact ⟨rfl, rfl⟩
theorem pt_take {w : World} {g : Nat} {t : TypeId} {no : Int} {D : Value} {r : FRow} {n : Int} {A : Option Addr} {m c k : Nat} (h : Pt w g t [.slice A m c] no D r n) (hk : k ≤ m) (hm : m ≤ c) (hc : c ≤ 9223372036854775807) :
    Calls Tryz.prog 220 #[.pointer (some ⟨g, 0, none⟩), .int .i64 (k : Int)] w fun e w' => e = .returned (.tuple #[.slice A k c, .int .i64 0]) ∧ Pt w' g t [.slice (cutA A c k) (m - k) (c - k)] no D r n ∧ Fr (Just g) w w' := by
  have c7 := Bk.cell h 7
  have z7 := Bk.frozen h 7
  have H := Lib.hid h
  clear h
  go_enter Tryz.func220, Tryz.ntmps220
  go_wp2
  all_goals
    go_ret2
    refine ⟨rfl, ?_, (Fr.refl (Just g) w).setCell (p := ⟨g, 7, none⟩) (.inl (Just.at g)) _⟩
  · have h1 := H.out.setR (.slice A (m - k) 0)
    unfold cutA
    rw [if_pos (by first | rfl | assumption)]
    exact h1
  · have h1 := H.out.setR (.slice (A.map (·.add k)) (m - k) (c - k))
    unfold cutA
    rw [if_neg (by assumption)]
    exact h1
theorem numR_lt (l : List UInt8) : numR l < 1000000000000000000 := by
  unfold numR
  split
  · rename_i h
    obtain ⟨h1, h2, h3⟩ := rightB_len h
    have h4 := numV_le h3
    have h5 : (10 : Nat) ^ l.length ≤ 10 ^ 18 := Nat.pow_le_pow_right (by decide) (by omega)
    have : (10 : Nat) ^ 18 = 1000000000000000000 := by decide
    omega
  · decide
/-- what reading the length answers -/
def LenTo (w : World) (g : Nat) (t : TypeId) (no : Int) (D : Value) (r : FRow) (A : Option Addr) (b : List UInt8) (e : Ending) (w' : World) : Prop :=
  e = .returned (.int .i64 (sizEl r b).1) ∧ Fr (Just g) w w' ∧ ((sizEl r b).1 = 0 → r.dig ≤ b.length ∧ ∃ A' c', Pt w' g t [.slice A' (b.length - r.dig) c'] no D r ((sizEl r b).2 : Int) ∧ Rd w' A' (b.length - r.dig) c' (u8s (b.drop r.dig)) ∧ ∀ ad, A' = some ad → ∃ ad', A = some ad' ∧ ad.block = ad'.block)
theorem pt_length {w : World} {g : Nat} {t : TypeId} {no : Int} {D : Value} {r : FRow} {n : Int} {A : Option Addr} {c : Nat} {b : List UInt8} (h : Pt w g t [.slice A b.length c] no D r n) (hr : Rd w A b.length c (u8s b)) (hA : 0 < b.length → ∀ ad, A = some ad → ad.block ≠ g) :
    Calls Tryz.prog 170 #[.pointer (some ⟨g, 0, none⟩)] w (LenTo w g t no D r A b) := by
  obtain ⟨-, -, -, -, c4, c5, c6, z⟩ := h.cells
  have z6 := z 6
  have H := Lib.hid h; have HR := Lib.hid hr
  clear z
  by_cases h0 : r.dig = 0
  · have e0 : ((r.dig : Int) == 0) = true := by rw [beq_iff_eq]; omega
    have hs : sizEl r b = (0, r.top) := by unfold sizEl; rw [if_pos h0]
    have HS := Lib.hid hs; have H0 := Lib.hid h0
    obtain ⟨DD, hDD⟩ : ∃ x : Int, (r.dig : Int) = x := ⟨_, rfl⟩
    rw [hDD] at c4 e0
    clear h hs h0 hr hDD
    go_enter Tryz.func170, Tryz.ntmps170
    go_wp2
    go_ret
    refine ⟨by rw [HS.out]; rfl, (Fr.refl (Just g) w).setCell (p := ⟨g, 6, none⟩) (.inl (Just.at g)) _, fun _ => ?_⟩
    rw [HS.out, H0.out]
    refine ⟨Nat.zero_le _, A, c, H.out.setN _, ?_, fun ad e => ⟨ad, e, rfl⟩⟩
    exact rd_far HR.out ((Fr.refl (Just g) w).setCell (p := ⟨g, 6, none⟩) (.inl (Just.at g)) _) hA
  have e0 : ((r.dig : Int) == 0) = false := by rw [beq_eq_false_iff_ne]; omega
  by_cases h1 : b.length < r.dig
  · have hs : sizEl r b = (3, 0) := by unfold sizEl; rw [if_neg h0, if_pos h1]
    have HS := Lib.hid hs
    have HT := Lib.hid (pt_take_short h h1)
    obtain ⟨DD, hDD⟩ : ∃ x : Int, (r.dig : Int) = x := ⟨_, rfl⟩
    rw [hDD] at c4 e0 HT
    clear h hs h0 h1 hr hDD
    go_enter Tryz.func170, Tryz.ntmps170
    go_wp2_with (go_at_call 220; refine HT.out.mono ?_; rintro e w1 ⟨rfl, rfl⟩)
    go_ret
    exact ⟨by rw [HS.out]; rfl, Fr.refl _ _, fun e => by rw [HS.out] at e; cases e⟩
  · have hs : sizEl r b = (numE (b.take r.dig), numR (b.take r.dig)) := by unfold sizEl; rw [if_neg h0, if_neg h1]
    have hle : r.dig ≤ b.length := by omega
    have hc := hr.cap
    have hmx : c ≤ 9223372036854775807 := by have := hr.max; simpa [maxLen] using this
    have HT := Lib.hid (pt_take h hle hc hmx)
    have hh := rd_head hr hle
    have hrs := rd_rest hr hle
    have hstr := fun u (hf : Fr (Just g) w u) => run_string (P := Tryz.prog) (rd_far hh hf (fun h0' ad e => hA (by omega) ad e)) 22 5 Tryz.underlying22 Tryz.underlying5 9 Tryz.underlying9
    have hbl : (bstr (b.take r.dig)).data.toList = b.take r.dig := by simp [bstr]
    have hnum := fun u => number_any (bstr (b.take r.dig)) u (by rw [bstr_size, List.length_take]; simp only [maxLen]; omega)
    rw [hbl] at hnum
    have hnr : numR (b.take r.dig) < 1000000000000000000 := numR_lt _
    have hw : IntKind.i64.wrap (numR (b.take r.dig) : Int) = (numR (b.take r.dig) : Int) := IntWalk.i64_in _ ⟨by omega, by omega⟩
    have hz : (bstr (b.take r.dig)).size ≤ 9223372036854775807 := by rw [bstr_size, List.length_take]; omega
    have HS := Lib.hid hs; have HRS := Lib.hid hrs; have HLE := Lib.hid hle
    generalize bstr (b.take r.dig) = S at *
    generalize numR (b.take r.dig) = N at *
    generalize numE (b.take r.dig) = E at *
    obtain ⟨DN, hDN⟩ : ∃ x : Nat, r.dig = x := ⟨_, rfl⟩
    rw [hDN] at c4 e0 HT hstr HRS HLE
    have HDN := Lib.hid hDN
    have HNUM := Lib.hid hnum; have HSTR := Lib.hid hstr
    clear h hs h0 h1 hr hDN hh hrs hstr hnum hc hnr hle hbl hmx
    go_enter Tryz.func170, Tryz.ntmps170
    go_wp2_with (first
      | (go_at_call 220; refine HT.out.mono ?_; rintro e w1 ⟨rfl, hp1, f1⟩; have P1 := Lib.hid hp1; have F1 := Lib.hid f1; have hst1 := HSTR.out _ f1; have d6 := hp1.cells.2.2.2.2.2.2.1; have y6 := hp1.cells.2.2.2.2.2.2.2 6; clear hp1 f1)
      | (go_at_call 88; refine (HNUM.out _).mono ?_; rintro e w2 ⟨rfl, rfl⟩))
    go_ret
    have hf := F1.out.setCell (p := ⟨g, 6, none⟩) (.inl (Just.at g)) (.int .i64 (N : Int))
    refine ⟨by rw [HS.out]; rfl, hf, fun _ => ?_⟩
    rw [HS.out, HDN.out]
    refine ⟨HLE.out, _, _, P1.out.setN _, rd_far HRS.out hf (fun h0 ad e => ?_), fun ad e => cutA_block e⟩
    obtain ⟨ad', rfl, hb⟩ := cutA_block e
    rw [hb]
    exact hA (by omega) ad' rfl
/-- what reading the data answers -/
def DatTo (w : World) (g : Nat) (t : TypeId) (no : Int) (r : FRow) (A : Option Addr) (b : List UInt8) (n : Nat) (e : Ending) (w' : World) : Prop :=
  Fr (Just g) w w' ∧ ((e = .returned (.int .i64 3) ∧ b.length < n) ∨ (e = .returned (.int .i64 0) ∧ n ≤ b.length ∧ ∃ c A' c', Pt w' g t [.slice A' (b.length - n) c'] no (.slice A n c) r (n : Int) ∧ Rd w' A n c (u8s (b.take n))))
theorem pt_data {w : World} {g : Nat} {t : TypeId} {no : Int} {D : Value} {r : FRow} {n : Nat} {A : Option Addr} {c : Nat} {b : List UInt8} (h : Pt w g t [.slice A b.length c] no D r (n : Int)) (hr : Rd w A b.length c (u8s b)) (hA : 0 < b.length → ∀ ad, A = some ad → ad.block ≠ g) :
    Calls Tryz.prog 172 #[.pointer (some ⟨g, 0, none⟩)] w (DatTo w g t no r A b n) := by
  obtain ⟨-, c1, -, -, -, -, c6, z⟩ := h.cells
  have z1 := z 1
  clear z
  by_cases h1 : b.length < n
  · have HT := Lib.hid (pt_take_short h h1)
    have H1 := Lib.hid h1
    clear h h1 hr
    go_enter Tryz.func172, Tryz.ntmps172
    go_wp2_with (go_at_call 220; refine HT.out.mono ?_; rintro e w1 ⟨rfl, rfl⟩)
    go_ret
    exact ⟨(Fr.refl (Just g) w).setCell (p := ⟨g, 1, none⟩) (.inl (Just.at g)) _, .inl ⟨rfl, H1.out⟩⟩
  · have hle : n ≤ b.length := by omega
    have hc := hr.cap
    have hmx : c ≤ 9223372036854775807 := by have := hr.max; simpa [maxLen] using this
    have HT := Lib.hid (pt_take h hle hc hmx)
    have HH := Lib.hid (rd_head hr hle)
    have HLE := Lib.hid hle
    clear h h1 hr hle hc hmx
    go_enter Tryz.func172, Tryz.ntmps172
    go_wp2_with (go_at_call 220; refine HT.out.mono ?_; rintro e w1 ⟨rfl, hp1, f1⟩; have P1 := Lib.hid hp1; have F1 := Lib.hid f1; have d1 := hp1.cells.2.1; have y1 := hp1.cells.2.2.2.2.2.2.2 1; clear hp1 f1)
    go_ret
    have hf := F1.out.setCell (p := ⟨g, 1, none⟩) (.inl (Just.at g)) (.slice A n c)
    refine ⟨hf, .inr ⟨rfl, HLE.out, c, _, _, P1.out.setD _, rd_far HH.out hf (fun h0 ad e => hA (by have := HLE.out; omega) ad e)⟩⟩

/-! ### the five steps -/
abbrev fiveE (g : Nat) : List Value := [.func (.func 169) #[.pointer (some ⟨g, 0, none⟩)] #[], .func (.func 170) #[.pointer (some ⟨g, 0, none⟩)] #[], .func (.func 171) #[.pointer (some ⟨g, 0, none⟩)] #[],
  .func (.func 172) #[.pointer (some ⟨g, 0, none⟩)] #[], .func (.func 173) #[.pointer (some ⟨g, 0, none⟩)] #[]]
def RestAt (g : Nat) (t : TypeId) (no : Int) (r : FRow) (D : Value) (b : List UInt8) (k n : Nat) (A : Option Addr) (u : World) : Prop :=
  k ≤ b.length ∧ ∃ A' c', Pt u g t [.slice A' (b.length - k) c'] no D r (n : Int) ∧ Rd u A' (b.length - k) c' (u8s (b.drop k)) ∧ ∀ ad, A' = some ad → ∃ ad', A = some ad' ∧ ad.block = ad'.block
def RdR (w0 : World) (g : Nat) (t : TypeId) (no : Int) (A : Option Addr) (c : Nat) (b : List UInt8) : Nat → World → Prop
  | 0, u => Fr (Just g) w0 u ∧ Pt u g t [.slice A b.length c] no (.slice none 0 0) elNone 0
  | 1, u => Fr (Just g) w0 u ∧ ∃ r, elFind no = some r ∧ Pt u g t [.slice A b.length c] no (.slice none 0 0) r 0
  | 2, u => Fr (Just g) w0 u ∧ ∃ r, elFind no = some r ∧ (sizEl r b).1 = 0 ∧ RestAt g t no r (.slice none 0 0) b r.dig (sizEl r b).2 A u
  | 3, u => Fr (Just g) w0 u ∧ ∃ r, elFind no = some r ∧ (sizEl r b).1 = 0 ∧ fitB r (sizEl r b).2 = true ∧ RestAt g t no r (.slice none 0 0) b r.dig (sizEl r b).2 A u
  | 4, u => Fr (Just g) w0 u ∧ ∃ r, elFind no = some r ∧ (sizEl r b).1 = 0 ∧ fitB r (sizEl r b).2 = true ∧ r.dig + (sizEl r b).2 ≤ b.length ∧ ∃ DA dc A' c', Pt u g t [.slice A' (b.length - r.dig - (sizEl r b).2) c'] no (.slice DA (sizEl r b).2 dc) r ((sizEl r b).2 : Int) ∧ Rd u DA (sizEl r b).2 dc (u8s ((b.drop r.dig).take (sizEl r b).2))
  | _, u => Fr (Just g) w0 u ∧ ∃ r, elFind no = some r ∧ rdR r b = (0, (b.drop r.dig).take (sizEl r b).2, r.dig + (sizEl r b).2) ∧ r.dig + (sizEl r b).2 ≤ b.length ∧ ∃ DA dc A' c', Pt u g t [.slice A' (b.length - r.dig - (sizEl r b).2) c'] no (.slice DA (sizEl r b).2 dc) r ((sizEl r b).2 : Int) ∧ Rd u DA (sizEl r b).2 dc (u8s ((b.drop r.dig).take (sizEl r b).2))
def RdQ (w0 : World) (g : Nat) (no : Int) (b : List UInt8) (E : Int) (u : World) : Prop := Fr (Just g) w0 u ∧ rdEl no b = (E, [], 0)
theorem rdR_fr {w0 u : World} {g : Nat} {t : TypeId} {no : Int} {A : Option Addr} {c : Nat} {b : List UInt8} {i : Nat} (h : RdR w0 g t no A c b i u) : Fr (Just g) w0 u := by
  match i, h with
  | 0, h => exact h.1
  | 1, h => exact h.1
  | 2, h => exact h.1
  | 3, h => exact h.1
  | 4, h => exact h.1
  | _ + 5, h => exact h.1
theorem rdEl_some {no : Int} {r : FRow} (h : elFind no = some r) (b : List UInt8) : rdEl no b = rdR r b := by unfold rdEl; rw [h]
theorem five_eles {w0 : World} {g : Nat} {t : TypeId} {no : Int} {A : Option Addr} {c : Nat} {b : List UInt8} (hr : Rd w0 A b.length c (u8s b)) (hA : 0 < b.length → ∀ ad, A = some ad → ad.block ≠ g) (hT : ∀ u, Fr (Just g) w0 u → Tabs u) (i : Nat) (hi : i < 5) :
    ∃ F x, (fiveE g)[i]? = some (.func (.func F) #[x] #[]) ∧ (∀ args w, (callFunc F args).run Tryz.prog w = .ok (.enter F args) w) ∧ ∀ u, RdR w0 g t no A c b i u → Calls Tryz.prog F #[x] u (SWTo (RdR w0 g t no A c b (i + 1)) (RdQ w0 g no b)) := by
  have h5 : i = 0 ∨ i = 1 ∨ i = 2 ∨ i = 3 ∨ i = 4 := by omega
  rcases h5 with rfl | rfl | rfl | rfl | rfl
  · refine ⟨_, _, rfl, fun args w => rfl, ?_⟩
    rintro u ⟨hf, hp⟩
    refine (pt_known hp (hT u hf)).mono ?_
    rintro e u' ⟨rfl, hp2, hf2⟩
    cases hs : elFind no with
    | none => exact ⟨16, rfl, .inr ⟨by decide, hf.trans hf2, by unfold rdEl; rw [hs]⟩⟩
    | some q =>
      rw [elGet_some hs] at hp2
      exact ⟨0, rfl, .inl ⟨rfl, hf.trans hf2, q, hs, hp2⟩⟩
  · refine ⟨_, _, rfl, fun args w => rfl, ?_⟩
    rintro u ⟨hf, r, hs, hp⟩
    refine (pt_length hp (rd_far hr hf hA) hA).mono ?_
    rintro e u' ⟨rfl, hf2, hok⟩
    by_cases h0 : (sizEl r b).1 = 0
    · exact ⟨_, rfl, .inl ⟨h0, hf.trans hf2, r, hs, h0, hok h0⟩⟩
    · exact ⟨_, rfl, .inr ⟨h0, hf.trans hf2, by rw [rdEl_some hs]; unfold rdR; rw [if_pos h0]⟩⟩
  · refine ⟨_, _, rfl, fun args w => rfl, ?_⟩
    rintro u ⟨hf, r, hs, h0, hk, A', c', hp, hrd, hbl⟩
    refine (pt_fits hp).mono ?_
    rintro e u' ⟨rfl, hf2⟩
    cases hb : fitB r (sizEl r b).2 with
    | true => exact ⟨0, rfl, .inl ⟨rfl, hf.dr hf2, r, hs, h0, hb, hk, A', c', hp.still hf2.fr, hrd.dr hf2, hbl⟩⟩
    | false => exact ⟨17, rfl, .inr ⟨by decide, hf.dr hf2, by rw [rdEl_some hs]; unfold rdR; rw [if_neg (by rw [h0]; decide), if_pos hb]⟩⟩
  · refine ⟨_, _, rfl, fun args w => rfl, ?_⟩
    rintro u ⟨hf, r, hs, h0, hb, hk, A', c', hp, hrd, hbl⟩
    have hdl : (b.drop r.dig).length = b.length - r.dig := List.length_drop
    rw [← hdl] at hp hrd
    refine (pt_data hp hrd (fun h1 ad e => by
      obtain ⟨ad', e', hx⟩ := hbl ad e
      rw [hx]
      exact hA (by rw [hdl] at h1; omega) ad' e')).mono ?_
    rintro e u' ⟨hf2, ⟨rfl, hlt⟩ | ⟨rfl, hle, dc, B, d, hp2, hr2⟩⟩
    · exact ⟨3, rfl, .inr ⟨by decide, hf.trans hf2, by rw [rdEl_some hs]; unfold rdR; rw [if_neg (by rw [h0]; decide), if_neg (by rw [hb]; decide), if_pos (by rw [hdl] at hlt; omega)]⟩⟩
    · rw [hdl] at hle hp2
      exact ⟨0, rfl, .inl ⟨rfl, hf.trans hf2, r, hs, h0, hb, by omega, A', dc, B, d, hp2, hr2⟩⟩
  · refine ⟨_, _, rfl, fun args w => rfl, ?_⟩
    rintro u ⟨hf, r, hs, h0, hb, hle, DA, dc, B, d, hp, hrd⟩
    have hm := (elFind_some hs).1
    have hbd := fit_bounds hm hb
    refine (pt_typed hp (el_row hm).2.2.2.2.1 hrd hbd.1 (by omega)).mono ?_
    rintro e u' ⟨rfl, hf2⟩
    cases hk : typB r.kind ((b.drop r.dig).take (sizEl r b).2) with
    | true => exact ⟨0, rfl, .inl ⟨rfl, hf.trans hf2.no, r, hs, by unfold rdR; rw [if_neg (by rw [h0]; decide), if_neg (by rw [hb]; decide), if_neg (by omega), if_neg (by rw [hk]; decide)], hle, DA, dc, B, d, hp.still hf2, hrd.no hf2⟩⟩
    | false => exact ⟨14, rfl, .inr ⟨by decide, hf.trans hf2.no, by rw [rdEl_some hs]; unfold rdR; rw [if_neg (by rw [h0]; decide), if_neg (by rw [hb]; decide), if_neg (by omega), if_pos hk]⟩⟩
theorem read_walk {w : World} {g : Nat} {t : TypeId} {no : Int} {A : Option Addr} {c : Nat} {b : List UInt8} (h : Pt w g t [.slice A b.length c] no (.slice none 0 0) elNone 0) (hr : Rd w A b.length c (u8s b)) (hA : 0 < b.length → ∀ ad, A = some ad → ad.block ≠ g) (hT : ∀ u, Fr (Just g) w u → Tabs u) (ty : TypeId) :
    Calls Tryz.prog 16 #[.slice (some ⟨w.heap.size, 0, none⟩) 5 5] (w.alloc (.cells (fiveE g).toArray ty))
      (SWTo (RdR (w.alloc (.cells (fiveE g).toArray ty)) g t no A c b 5) (RdQ (w.alloc (.cells (fiveE g).toArray ty)) g no b)) := by
  have hfa : Fr No w (w.alloc (.cells (fiveE g).toArray ty)) := (Fr.refl No w).alloc _
  have hbk := Bk.new w ty (fiveE g).toArray
  have hgl := h.lt
  refine t_walk (some ⟨w.heap.size, 0, none⟩) 5 5 (fiveE g) _ _ _ rfl (Nat.le_refl _) (by omega) (fun e => nomatch e) ⟨Fr.refl _ _, h.still hfa⟩ ?_ (fun i hi => five_eles (hr.no hfa) hA (fun u hu => hT u (hfa.no.trans hu)) i hi)
  intro i u hu ad e j v hv
  injection e with e
  subst e
  have h1 := (hbk.fr (rdR_fr hu) (fun x => by have : w.heap.size = g := x; omega)).cell j
  rw [addr_at, h1]
  exact hv
theorem rdR_fit {r : FRow} {b : List UInt8} (h : (rdR r b).1 = 0) : (sizEl r b).1 = 0 ∧ fitB r (sizEl r b).2 = true := by
  by_cases h0 : (sizEl r b).1 = 0
  · refine ⟨h0, ?_⟩
    cases hf : fitB r (sizEl r b).2 with
    | true => rfl
    | false =>
      unfold rdR at h
      rw [if_neg (by rw [h0]; decide), if_pos hf] at h
      cases h
  · unfold rdR at h
    rw [if_pos h0] at h
    exact absurd h h0
/-- what Read answers -/
def ReadTo (l : List UInt8) (n : Nat) (E : Int) (w : World) (e : Ending) (w' : World) : Prop := ∃ v, e = .returned (.tuple #[v, .int .i64 (n : Int), .int .i64 E]) ∧ w'.ownsRow w.heap.size 5 1 v l.length (u8s l) ∧ Fr No w w'
set_option maxRecDepth 20000 in
theorem el_read_any (no : Int) (A : Option Addr) (c : Nat) (b : List UInt8) (w : World) (hr : Rd w A b.length c (u8s b)) (hT : Tabs w := by repeat' first | with_reducible assumption | with_reducible apply Tabs.drew | with_reducible apply Tabs.drewN | with_reducible apply Tabs.alloc | refine Tabs.fr ?_ (by with_reducible assumption)) :
    Calls Tryz.prog 131 #[.int .i64 no, .slice A b.length c] w (ReadTo (reL no b) (reN no b) (reE no b) w) := by
  obtain ⟨m, hm⟩ : ∃ m, b.length = m := ⟨_, rfl⟩
  have hob : Fr No w (w.alloc (.cells #[.int .i64 no, .slice none 0 0, .int .i64 0, .int .i64 0, .int .i64 0, .int .i64 0, .int .i64 0, .slice A b.length c] 223)) := (Fr.refl No w).alloc _
  have hw0 := read_walk (g := w.heap.size) (Bk.new w 223 #[.int .i64 no, .slice none 0 0, .int .i64 0, .int .i64 0, .int .i64 0, .int .i64 0, .int .i64 0, .slice A b.length c]) (hr.no hob) (fun h0 ad e x => by have := (hr.lt h0) ad e; omega) (fun u hu => hT.fr (hob.trans_just hu (Nat.le_refl _))) 58
  have hz : (w.alloc (.cells #[.int .i64 no, .slice none 0 0, .int .i64 0, .int .i64 0, .int .i64 0, .int .i64 0, .int .i64 0, .slice A b.length c] 223)).heap.size = w.heap.size + 1 := by simp
  rw [hz] at hw0
  obtain ⟨W0, hW0⟩ : ∃ W0, (w.alloc (.cells #[.int .i64 no, .slice none 0 0, .int .i64 0, .int .i64 0, .int .i64 0, .int .i64 0, .int .i64 0, .slice A b.length c] 223)).alloc (.cells (fiveE w.heap.size).toArray 58) = W0 := ⟨_, rfl⟩
  have HF0 := Lib.hid (show Fr No w W0 from hW0 ▸ hob.alloc _)
  have hRQ : ∃ (R : World → Prop) (Q : Int → World → Prop), R = RdR W0 w.heap.size 223 no A c b 5 ∧ Q = RdQ W0 w.heap.size no b := ⟨_, _, rfl, rfl⟩
  obtain ⟨R, Q, hRe, hQe⟩ := hRQ
  rw [hW0, ← hRe, ← hQe, ← hW0, hm] at hw0
  have HW := Lib.hid hw0; have HRE := Lib.hid hRe; have HQE := Lib.hid hQe
  have HR := Lib.hid hr; have HBL := Lib.hid hm
  have hmx : m ≤ 9223372036854775807 := by have h1 := hr.cap; have h2 := hr.max; simp only [maxLen] at h2; omega
  rw [hm]
  clear hr hob hT hm hw0 hRe hQe hz hW0
  go_enter Tryz.func131, Tryz.ntmps131
  go_wp2_with (go_at_call 16; (with_reducible refine (HW.out).mono ?_); rintro e w1 ⟨E, rfl, hE⟩; have HE := Lib.hid hE; clear hE)
  · go_ret3
    have hne : E ≠ 0 := by rw [← bne_iff_ne]; assumption
    rcases HE.out with ⟨h0, -⟩ | ⟨_, hq⟩
    · exact absurd h0 hne
    · rw [HQE.out] at hq
      obtain ⟨hf, he⟩ := hq
      have e1 : reE no b = E := by unfold reE; rw [he]
      have e2 : reL no b = [] := by unfold reL; rw [he]
      have e3 : reN no b = 0 := by unfold reN; rw [he]
      rw [e1, e2, e3]
      exact ⟨_, rfl, World.ownsRow_nil _ _ _ _, HF0.out.trans_just hf (Nat.le_refl _)⟩
  · have h0 : E = 0 := by
      have hb : (E != 0) = false := by assumption
      rw [bne_eq_false_iff_eq] at hb
      exact hb
    subst h0
    obtain ⟨hf, r, hs, he, hle, DA, dc, A', c', hp, hrd⟩ : RdR W0 w.heap.size 223 no A c b 5 w1 := by
      rcases HE.out with ⟨_, h⟩ | ⟨h, _⟩
      · rw [← HRE.out]; exact h
      · exact absurd rfl h
    have hbd : (sizEl r b).2 ≤ 9223372036854775807 := by have := HBL.out; omega
    have hdl : ((b.drop r.dig).take (sizEl r b).2).length = (sizEl r b).2 := by rw [List.length_take, List.length_drop]; omega
    rw [HBL.out] at hp hle
    obtain ⟨d1, -⟩ := hp.cells.2
    have d7 := Bk.cell hp 7
    have HP := Lib.hid hp
    have F1 := Lib.hid (HF0.out.trans_just hf (Nat.le_refl _))
    have e1 : reE no b = 0 := by unfold reE; rw [rdEl_some hs, he]
    have e2 : reL no b = (b.drop r.dig).take (sizEl r b).2 := by unfold reL; rw [rdEl_some hs, he]
    have e3 : reN no b = r.dig + (sizEl r b).2 := by unfold reN; rw [rdEl_some hs, he]
    have hz2 : (sizEl r b).2 ≤ 140737488355328 := by
      have h1 := fit_bounds (elFind_some hs).1 (rdR_fit (r := r) (b := b) (by rw [he])).2
      omega
    have hN : (m : Int) - ((m - r.dig - (sizEl r b).2 : Nat) : Int) = ((r.dig + (sizEl r b).2 : Nat) : Int) := by omega
    have hN2 : ((m - r.dig - (sizEl r b).2 : Nat) : Int) ≤ (m : Int) := by omega
    have E1 := Lib.hid e1
    clear e1
    generalize (b.drop r.dig).take (sizEl r b).2 = L at *
    generalize (sizEl r b).2 = z at *
    generalize r.dig + z = N at *
    have E2 := Lib.hid e2; have E3 := Lib.hid e3
    obtain ⟨q, hq⟩ : ∃ q, m - r.dig - z = q := ⟨_, rfl⟩
    rw [hq] at hN hN2 d7 HP
    have HRD := Lib.hid hrd
    have HDL := Lib.hid hdl
    clear HE hp hf hs he hrd e2 e3 hq hle hdl HW HRE HQE
    go_region_law (first
      | (go_simp; go_at_call 76; refine (clone_any _ _ _ L _ (HRD.out.no (Fr.refl No w1).drew) hz2).mono ?_; rintro e w3 ⟨v, rfl, ho3, f3⟩; have HO3 := Lib.hid ho3; have F13 := Lib.hid (((Fr.refl No w1).drew).trans f3); have c71 := F13.out.cell d7 (fun x => x); clear ho3 f3))
    all_goals
      go_wp2_with fail
      go_ret3
      rw [E1.out, E2.out, E3.out]
      refine ⟨v, by simp [Act.put]; exact IntWalk.i64_in _ ⟨by omega, by omega⟩, ?_, F1.out.trans F13.out⟩
      rw [HDL.out]
      exact own_low HO3.out F1.out.size
end Go.Proofs.YthlgnmgjfgbffaaGreatDoor
