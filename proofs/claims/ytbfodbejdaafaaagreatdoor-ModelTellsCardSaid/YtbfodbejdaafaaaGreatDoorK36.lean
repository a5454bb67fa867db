/- The texts ModMod, CanNam3, CanNest, joined. -/
import Derived.Test.YtbfodbejdaafaaaGreatDoorK35
import Derived.Test.YtbfodbejdaafaaaGreatDoorK27
import Derived.Test.YtbfodbejdaafaaaGreatDoorK28
import Derived.Test.YtbfodbejdaafaaaGreatDoorK21
import Derived.Test.YtbfodbejdaafaaaGreatDoorK19
/- Package model: a node with a model; which checks are asked: contracts. -/
namespace Go.Proofs.YtbfodbejdaafaaaGreatDoor
open Go.RowKit
set_option maxHeartbeats 1000000
set_option linter.unusedVariables false

theorem bl_eq (c : UInt8) : ([9, 10, 13, 32] : List UInt8).contains c = isBl c := by
  have := byte_all (fun c => ([9, 10, 13, 32] : List UInt8).contains c == isBl c) (by decide +kernel) c
  simpa using this
theorem bl_low : ∀ (j : Nat) (b : UInt8), ([9, 10, 13, 32] : List UInt8)[j]? = some b → b.toNat < 128 := by
  intro j b h
  have hm := List.mem_of_getElem? h
  have := List.all_eq_true.1 (show ([9, 10, 13, 32] : List UInt8).all (fun b => decide (b.toNat < 128)) = true by decide) b hm
  simpa using this
theorem m_trim (S : ByteArray) (w : World) (hs : S.size ≤ 140737488355328) : Calls Tryz.prog 67 #[.string S, .string ⟨#[9, 10, 13, 32]⟩] w fun e w' => ∃ R : ByteArray, e = .returned (.string R) ∧ Fr No w w' ∧ (R.toList == []) = blankB S.data.toList := by
  refine (Tryz.strings_Trim S ⟨#[9, 10, 13, 32]⟩ w (by omega) (by decide) bl_low).mono ?_
  rintro e w' ⟨rfl, hb⟩
  refine ⟨_, rfl, Fr.of_below hb, ?_⟩
  have h := trim_nil S.data.toList [9, 10, 13, 32]
  rw [show (fun c => ([9, 10, 13, 32] : List UInt8).contains c) = isBl from funext bl_eq] at h
  rw [Bool.eq_iff_iff]
  unfold blankB
  rw [← h, beq_iff_eq]
  show (bstr (Lib.trimS S.data.toList [9, 10, 13, 32])).toList = [] ↔ _
  rw [bstr_toList]
variable {w w' : World} {g G : Nat} {A : Option Addr} {n c : Nat} {N : Nat → Prop} {ns : List Nod} {a : List Chd}
theorem FileT.lt (h : FileT w g G A n c N ns a) : g < w.heap.size ∧ G < w.heap.size := ⟨h.bk.lt, h.as_.lt⟩
def ModEnd (g G : Nat) (A : Option Addr) (n c : Nat) (N : Nat → Prop) (ns : List Nod) (a : List Chd) (i : Nat) (cs : List Chd) (b : Bool) (w : World) (e : Ending) (w' : World) : Prop :=
  ∃ a', e = .returned (.int .i64 (if b && fillB cs (namesK ns i) then 0 else 13)) ∧ FileT w' g G A n c N ns a' ∧ Fr (Just G) w w' ∧ (∀ k, k ∉ kidsL ns (i : Int) → a'[k]? = a[k]?) ∧ ((b && fillB cs (namesK ns i)) = true → ∀ k ∈ kidsL ns (i : Int), a'[k]? = some (childL cs (nameAt ns (k : Int))))
set_option maxRecDepth 20000 in
theorem m_modelled (i : Nat) (cs : List Chd) (h : FileT w g G A n c N ns a) (hi : i < n) (hil : i < ns.length) (hn : n ≤ 1000000) (hm : modelL ns[i].name = some cs) (hs : NodW ns[i]) :
    Calls Tryz.prog 39 #[.pointer (some ⟨g, 0, none⟩), .int .i64 (i : Int)] w (ModEnd g G A n c N ns a i cs (blankB ns[i].text) w) := by
  have hiI : (i : Int) < (n : Int) := by omega
  have hGw := h.lt
  have hcl : cs.length ≤ 16 := by rcases model_some hm with rfl | rfl | rfl | rfl | rfl <;> decide
  have hsc := small_of hm
  have hown := model_own hm
  obtain ⟨ad, rfl, P, X, Y, A1, n1, c1, hP, z0, z1, z2, z3, hX, hY, hA1⟩ := nod_cells h.rd hil
  have hYs : Y.size ≤ 140737488355328 := by rw [← size_list, hY]; exact hs.text
  have hof := fun u => m_Of_any X u
  rw [hX, hm] at hof
  have htr := fun u => m_trim Y u hYs
  rw [hY] at htr
  have hkd := fun u (hf : Fr No w u) => kids_any ns (some ad) n c (i : Int) N u (h.rd.no nod_ok hf) (by omega)
  have hfl := fun u B m d M K q ck (hf : Fr No w u) hC hM hq hK hKG => m_fill (g := g) (G := G) (A := some ad) (n := n) (c := c) (N := N) (ns := ns) (a := a) (w := u) i cs (h.no hf) hi hn (B := B) (m := m) (d := d) (M := M) hC hM (by rw [← hC.len chd_ok (by omega)]; omega) hsc hown (K := K) (q := q) (ck := ck) hq hK hKG
  generalize blankB ns[i].text = bb at *
  have f0 := h.c0
  have HB := Lib.hid (Bk.new w 54 #[.int .i64 ns[i].parent, .string X, .string Y, .slice A1 n1 c1])
  have HFA := Lib.hid ((Fr.refl No w).alloc (.cells #[.int .i64 ns[i].parent, .string X, .string Y, .slice A1 n1 c1] 54))
  have HOF := Lib.hid hof; have HTR := Lib.hid htr; have HKD := Lib.hid hkd; have HFL := Lib.hid hfl; have H := Lib.hid h; have HU := Lib.hid m_unless
  clear hof htr hkd hfl h hsc hown hX hY hA1 hs hm hYs
  go_enter Tryz.func39, Tryz.ntmps39
  cases bb with
  | false =>
    go_wp2_with (first
      | (go_at_call 5; refine (HOF.out _).mono ?_; rintro e w2 ⟨B, m, d, rfl, hB, hf2⟩; have F2 := Lib.hid (HFA.out.trans hf2); have B2 := HB.out.no hf2; have y2 : w2.cell? ⟨w.heap.size, 2, none⟩ = some (.string Y) := B2.cell 2; clear hB)
      | (go_at_call 67; refine (HTR.out _).mono ?_; rintro e w3 ⟨R, rfl, hf3, hR⟩)
      | (go_at_call 63; refine (HU.out false _).mono ?_; rintro e w4 ⟨rfl, rfl⟩))
    go_ret
    exact ⟨a, rfl, H.out.no (F2.out.trans hf3), (F2.out.trans hf3).no, fun _ _ => rfl, fun e => by cases e⟩
  | true =>
    cases hfb : fillB cs (namesK ns i)
    all_goals
      go_wp2_with (first
        | (go_at_call 5; refine (HOF.out _).mono ?_; rintro e w2 ⟨B, m, d, rfl, hB, hf2⟩; have F2 := Lib.hid (HFA.out.trans hf2); have B2 := Lib.hid (HB.out.no hf2); have y2 : w2.cell? ⟨w.heap.size, 2, none⟩ = some (.string Y) := B2.out.cell 2; have HB2 := Lib.hid hB; have F02 := Lib.hid hf2; clear hB hf2)
        | (go_at_call 67; refine (HTR.out _).mono ?_; rintro e w3 ⟨R, rfl, hf3, hR⟩; have F3 := Lib.hid (F2.out.trans hf3); have g0 := F3.out.cell f0 (fun x => x); have HB3 := Lib.hid (HB2.out.no chd_ok hf3); clear hf3 y2)
        | (go_at_call 64; refine (HKD.out _ F3.out).mono ?_; rintro e w4 ⟨v, rfl, ho4, hf4⟩; obtain ⟨K, ck, rfl, hrk, hbk⟩ := Rd.of_own ho4; have F4 := Lib.hid (F3.out.trans hf4); have HK4 := Lib.hid hrk; have HBK := Lib.hid hbk; have HB4 := Lib.hid (HB3.out.no chd_ok hf4); clear ho4 hrk hbk hf4 g0)
        | (go_at_call 68; refine (HFL.out _ _ _ _ _ _ _ _ F4.out HB4.out (fun k hk e => by have h1 := hGw.2; have h2 := HFA.out.size; omega) rfl HK4.out (fun ad0 e0 e => by have h1 := hGw.2; have h2 := F3.out.size; have h3 := (HBK.out ad0 e0).1; omega)).mono ?_; rintro e w5 ⟨a', he, hft5, hf5, hr5, hg5⟩; rw [hfb] at he; subst he; have H5 := Lib.hid hft5; have F5 := Lib.hid (F4.out.no.trans hf5); have R5 := Lib.hid hr5; have G5 := Lib.hid hg5; clear hft5 hf5 hr5 hg5)
        | (go_at_call 63; refine (HU.out _ _).mono ?_; rintro e w6 ⟨rfl, rfl⟩))
      go_ret
      exact ⟨a', by rw [hfb]; rfl, H5.out, F5.out, R5.out, fun e => G5.out (by simpa using e)⟩
/-- the checks of a node: two method values -/
theorem m_checks (i : Nat) (h : FileT w g G A n c N ns a) (hi : i < n) (hil : i < ns.length) :
    Calls Tryz.prog 21 #[.pointer (some ⟨g, 0, none⟩), .int .i64 (i : Int)] w fun e w' => ∃ B : Nat, e = .returned (.slice (some ⟨B, 0, none⟩) 2 2) ∧
      Bk w' B 51 [.func (.func (if i = 0 then 38 else 36)) #[.pointer (some ⟨g, 0, none⟩)] #[], .func (.func (if (modelL ns[i].name).isSome then 39 else 37)) #[.pointer (some ⟨g, 0, none⟩)] #[]] ∧ w.heap.size ≤ B ∧ Fr No w w' := by
  have hiI : (i : Int) < (n : Int) := by omega
  obtain ⟨ad, rfl, P, X, Y, A1, n1, c1, hP, z0, z1, z2, z3, hX, hY, hA1⟩ := nod_cells h.rd hil
  have hof := fun u => m_Of_any X u
  rw [hX] at hof
  have f0 := h.c0
  have HOF := Lib.hid hof
  clear hof h hX hY hA1
  rcases Nat.eq_zero_or_pos i with h0 | h0
  · subst h0
    cases hm : modelL ns[0].name
    all_goals
      rw [hm] at HOF
      go_enter Tryz.func21, Tryz.ntmps21
      go_wp2_with (first
        | (go_at_call 5; refine (HOF.out _).mono ?_; rintro e w2 ⟨B, m, d, rfl, hB, hf2⟩; clear hB))
      go_ret
      exact ⟨_, rfl, Bk.new w2 _ _, hf2.size, hf2.alloc _⟩
  · have hn0 : ((i : Int) == 0) = false := by rw [beq_eq_false_iff_ne]; omega
    rw [if_neg (show ¬ i = 0 by omega)]
    cases hm : modelL ns[i].name
    all_goals
      rw [hm] at HOF
      go_enter Tryz.func21, Tryz.ntmps21
      go_wp2_with (first
        | (go_at_call 5; refine (HOF.out _).mono ?_; rintro e w2 ⟨B, m, d, rfl, hB, hf2⟩; clear hB))
      go_ret
      exact ⟨_, rfl, Bk.new w2 _ _, hf2.size, hf2.alloc _⟩
end Go.Proofs.YtbfodbejdaafaaaGreatDoor
/- What package canon does: all that a node has by itself, and each node of a row. -/
namespace Go.Proofs.YtbfodbejdaafaaaGreatDoor
open Go.RowKit
set_option maxHeartbeats 400000
set_option linter.unusedVariables false

theorem c_sound_any (p : Int) (X Y : ByteArray) (A : Option Addr) (n c : Nat) (N : Nat → Prop) (w : World) (nd : Nod) (hX : X.data.toList = nd.name) (hY : Y.data.toList = nd.text) (h : RdI 2 AttrI w N A n c nd.attrs) (hs : NodW nd) (hT : Tabs w) :
    Calls Tryz.prog 35 #[.agg #[.int .i64 p, .string X, .string Y, .slice A n c]] w fun e w' => e = .returned (.bool (soundB nd)) ∧ Fr No w w' := by
  have hlen := h.len attr_ok (by omega)
  have hn := fun u => c_named_any X u (by rw [← size_list, hX]; have := hs.name; omega)
  have hu := fun u (hu : Tabs u) => text_utf8_wide Y u (by rw [← size_list, hY]; have := hs.text; omega) hu
  have hm : n ≤ 140737488355328 := by have := hs.many; omega
  have he := fun u (hf : Fr No w u) (hu : Tabs u) => c_every_attr nd.attrs A n c N u (h.no attr_ok hf) hs.attrs hm hu
  have hq := fun u (hf : Fr No w u) => c_unlike_any nd.attrs A n c N u (h.no attr_ok hf) hs.attrs hm
  have e : soundB nd = (nameOk X.data.toList && (utf8B Y.data.toList && (nd.attrs.all attrB && unlikeB nd.attrs))) := by rw [hX, hY]; rfl
  rw [e]
  generalize nameOk X.data.toList = b1 at *
  generalize utf8B Y.data.toList = b2 at *
  generalize nd.attrs.all attrB = b3 at *
  generalize unlikeB nd.attrs = b4 at *
  have HN := Lib.hid hn; have HU := Lib.hid hu; have HE := Lib.hid he; have HQ := Lib.hid hq
  clear hn hu he hq e hX hY h hs hlen hm
  go_enter Tryz.func35, Tryz.ntmps35
  cases b1 with
  | false =>
    go_wp2_with (go_at_call 58; refine (HN.out _).mono ?_; rintro e w1 ⟨rfl, hf1⟩)
    go_ret
    exact ⟨rfl, ((Fr.refl _ w).alloc _).trans hf1⟩
  | true =>
    cases b2 with
    | false =>
      go_wp2_with (first
        | (go_at_call 58; refine (HN.out _).mono ?_; rintro e w1 ⟨rfl, hf1⟩; have B1 := (Bk.new w _ _).no hf1; have x2 : w1.cell? ⟨w.heap.size, 2, none⟩ = some (.string Y) := B1.cell 2; have F1 := ((Fr.refl No w).alloc _).trans hf1; have T1 := hT.fr F1)
        | (go_at_call 59; refine (HU.out _ T1).mono ?_; rintro e w2 ⟨rfl, hf2⟩; have F2 := F1.trans hf2))
      go_ret
      exact ⟨rfl, F2⟩
    | true =>
      cases b3 with
      | false =>
        go_wp2_with (first
          | (go_at_call 58; refine (HN.out _).mono ?_; rintro e w1 ⟨rfl, hf1⟩; have B1 := (Bk.new w _ _).no hf1; have x2 : w1.cell? ⟨w.heap.size, 2, none⟩ = some (.string Y) := B1.cell 2; have F1 := ((Fr.refl No w).alloc _).trans hf1; have T1 := hT.fr F1)
          | (go_at_call 59; refine (HU.out _ T1).mono ?_; rintro e w2 ⟨rfl, hf2⟩; have x3 : w2.cell? ⟨w.heap.size, 3, none⟩ = some (.slice A n c) := (B1.no hf2).cell 3; have F2 := F1.trans hf2; have T2 := hT.fr F2)
          | (go_at_call 60; refine (HE.out _ F2 T2).mono ?_; rintro e w3 ⟨rfl, hf3⟩; have F3 := F2.trans hf3))
        go_ret
        exact ⟨rfl, F3⟩
      | true =>
        go_wp2_with (first
          | (go_at_call 58; refine (HN.out _).mono ?_; rintro e w1 ⟨rfl, hf1⟩; have B1 := (Bk.new w _ _).no hf1; have x2 : w1.cell? ⟨w.heap.size, 2, none⟩ = some (.string Y) := B1.cell 2; have F1 := ((Fr.refl No w).alloc _).trans hf1; have T1 := hT.fr F1)
          | (go_at_call 59; refine (HU.out _ T1).mono ?_; rintro e w2 ⟨rfl, hf2⟩; have B2 := B1.no hf2; have x3 : w2.cell? ⟨w.heap.size, 3, none⟩ = some (.slice A n c) := B2.cell 3; have F2 := F1.trans hf2; have T2 := hT.fr F2)
          | (go_at_call 60; refine (HE.out _ F2 T2).mono ?_; rintro e w3 ⟨rfl, hf3⟩; have x4 : w3.cell? ⟨w.heap.size, 3, none⟩ = some (.slice A n c) := (B2.no hf3).cell 3; have F3 := F2.trans hf3)
          | (go_at_call 62; refine (HQ.out _ F3).mono ?_; rintro e w4 ⟨rfl, hf4⟩))
        go_ret
        exact ⟨ret_bool (by simp), F3.trans hf4⟩

theorem c_every_node (ls : List Nod) (A : Option Addr) (n c : Nat) (N : Nat → Prop) (w : World) (h : RdI 4 NodI w N A n c ls) (hs : ∀ a ∈ ls, NodW a) (hn : n ≤ 1000000000) (hT : Tabs w) :
    Calls Tryz.prog 34 #[.slice A n c, .func (.func 35) #[] #[]] w fun e w' => e = .returned (.bool (ls.all soundB)) ∧ Fr No w w' := by
  have hlen := h.len nod_ok (by omega)
  have HR := Lib.hid h; have HS := Lib.hid hs; have HT := Lib.hid hT
  clear h hs hT
  go_enter Tryz.func34, Tryz.ntmps34
  go_wp2
  go_loopw [9] (fun iv wr => ∃ k : Nat, iv = .int .i64 (k : Int) ∧ k ≤ n ∧ Fr No w wr ∧ (ls.take k).all soundB = true) (fun iv _ => n - (intOf iv).toNat)
  case atStart => exact ⟨0, rfl, Nat.zero_le _, Fr.refl _ _, rfl⟩
  case round =>
    obtain ⟨k, rfl, hk, hfr, hall⟩ := hrel
    rcases Nat.lt_or_ge k n with hlt | hge
    · have hltI : (k : Int) < (n : Int) := by omega
      have hkl : k < ls.length := by omega
      obtain ⟨ad, cs, rfl, ⟨X, Y, A1, n1, c1, rfl, hX, hY, hA1⟩, hc⟩ := (HR.out.no nod_ok hfr).at_ nod_ok (by omega) (i := k) hkl
      have x0 := hc 0 _ rfl
      have x1 := hc 1 _ rfl
      have x2 := hc 2 _ rfl
      have x3 := hc 3 _ rfl
      rw [add_next ad] at x1 x2 x3
      obtain ⟨P, hP⟩ : ∃ P, ad.add (k * 4) = P := ⟨_, rfl⟩
      rw [Nat.add_zero, hP] at x0
      rw [hP] at x1 x2 x3
      have hcv := fun u (hf : Fr No wr u) (hu : Tabs u) => c_sound_any ls[k].parent X Y A1 n1 c1 N u ls[k] hX hY (hA1.no attr_ok hf) (HS.out _ (List.getElem_mem hkl)) hu
      have htk := all_take soundB ls k hkl
      rw [hall, Bool.true_and] at htk
      have haf := all_at_false (p := soundB) hkl
      generalize soundB ls[k] = q at *
      have HV := Lib.hid hcv; have HFR := Lib.hid hfr; have HTK := Lib.hid htk; have HAF := Lib.hid haf
      clear hcv hfr htk haf hc hX hY hA1 hall
      cases q with
      | true =>
        go_wp2_with (go_at_call 35; refine (HV.out _ ((Fr.refl No wr).alloc _) ((HT.out.fr HFR.out).alloc)).mono ?_; rintro e w1 ⟨rfl, hf1⟩)
        go_roundw
        case rel => exact ⟨k + 1, by go_num, hlt, (HFR.out.alloc _).trans hf1, HTK.out⟩
        case measure => simp [intOf]; omega
      | false =>
        go_wp2_with (go_at_call 35; refine (HV.out _ ((Fr.refl No wr).alloc _) ((HT.out.fr HFR.out).alloc)).mono ?_; rintro e w1 ⟨rfl, hf1⟩)
        go_ret
        exact ⟨ret_bool (HAF.out (by trivial)).symm, (HFR.out.alloc _).trans hf1⟩
    · have hke : k = n := by omega
      subst hke
      have HFR := Lib.hid hfr; have HA := Lib.hid hall
      clear hfr hall
      go_wp2
      go_ret
      exact ⟨ret_bool (by rw [← HA.out, List.take_of_length_le (by omega)]), HFR.out⟩
end Go.Proofs.YtbfodbejdaafaaaGreatDoor
/- What package canon does: whether each node stands in one that is still open. -/
namespace Go.Proofs.YtbfodbejdaafaaaGreatDoor
open Go.RowKit
set_option maxHeartbeats 400000
set_option linter.unusedVariables false

def idxI (o : List Int) (p : Int) : Int := if o.contains p then ((o.takeWhile (fun x => decide (x ≠ p))).length : Int) else -1
theorem idx_none {o : List Int} {p : Int} (h : ∀ x ∈ o, x ≠ p) : idxI o p = -1 := by
  unfold idxI
  rw [if_neg]
  intro e
  rw [List.contains_iff_mem] at e
  exact h p e rfl
theorem idx_at {o : List Int} {p : Int} {k : Nat} (hk : k < o.length) (h : ∀ x ∈ o.take k, x ≠ p) (hp : o[k] = p) : idxI o p = (k : Int) := by
  have e : o = o.take k ++ p :: o.drop (k + 1) := by
    conv => lhs; rw [← List.take_append_drop k o, List.drop_eq_getElem_cons hk, hp]
  unfold idxI
  rw [if_pos (by rw [List.contains_iff_mem, ← hp]; exact List.getElem_mem hk)]
  rw [e, tw_at (fun hm => h p hm rfl), List.length_take]
  omega
theorem c_idx_any (o : List Int) (p : Int) (A : Option Addr) (n c : Nat) (w : World) (h : Rd w A n c (ints o)) (hn : n ≤ 1000000000) :
    Calls Tryz.prog 57 #[.slice A n c, .int .i64 p] w fun e w' => e = .returned (.int .i64 (idxI o p)) ∧ w = w' := by
  have hlen : o.length = n := by have := h.len; simpa using this
  have HR := Lib.hid h
  clear h
  go_enter Tryz.func57, Tryz.ntmps57
  go_wp2
  go_loop [8] (fun iv => ∃ k : Nat, iv = .int .i64 (k : Int) ∧ k ≤ n ∧ ∀ x ∈ o.take k, x ≠ p) (fun iv => n - (intOf iv).toNat)
  case atStart => exact ⟨0, rfl, Nat.zero_le _, by simp⟩
  case round =>
    obtain ⟨k, rfl, hk, hne⟩ := hrel
    rcases Nat.lt_or_ge k n with hlt | hge
    · have hltI : (k : Int) < (n : Int) := by omega
      have hkl : k < o.length := by omega
      obtain ⟨ad, u, rfl, hu, hc⟩ := HR.out.at_ hlt
      rw [ints_get o k hkl] at hu
      injection hu with hu
      subst hu
      by_cases hp : o[k] = p
      · have hix := idx_at hkl hne hp
        rw [hp] at hc
        have HI := Lib.hid hix
        clear hne hp hix
        go_wp2
        go_ret
        exact ⟨by rw [HI.out]; rfl, rfl⟩
      · have hpe : (p == o[k]) = false := by rw [beq_eq_false_iff_ne]; exact fun e => hp e.symm
        have hne2 : ∀ x ∈ o.take (k + 1), x ≠ p := by
          intro x hx
          rw [List.take_succ_eq_append_getElem hkl] at hx
          rcases List.mem_append.1 hx with hx | hx
          · exact hne x hx
          · simp at hx; subst hx; exact hp
        have HN := Lib.hid hne2
        clear hne hne2 hp
        go_wp2
        go_round
        case rel => exact ⟨k + 1, by go_num, hlt, HN.out⟩
        case measure => simp [intOf]; omega
    · have hke : k = n := by omega
      subst hke
      have hix : idxI o p = -1 := idx_none (by rw [List.take_of_length_le (by omega)] at hne; exact hne)
      have HI := Lib.hid hix
      clear hne hix
      go_wp2
      go_ret
      exact ⟨by rw [HI.out]; rfl, rfl⟩

/-- one's own row of numbers, cut -/
theorem own_pre {w : World} {base : Nat} {e : TypeId} {b n c : Nat} {xs : List Int} (k : Nat) (hk : k ≤ xs.length) (h : w.ownsRow base e 1 (.slice (some ⟨b, 0, none⟩) n c) xs.length (ints xs)) : w.ownsRow base e 1 (.slice (some ⟨b, 0, none⟩) k c) k (ints (xs.take k)) := by
  rcases h.2 with ⟨e1, _⟩ | ⟨g', cap', cur, e1, hb, hg, hnc, hm, hc, ht⟩
  · cases e1
  · injection e1 with e1 e2 e3
    refine ⟨by simp [ints]; omega, .inr ⟨g', cap', cur, by rw [e1, e3], hb, hg, by omega, hm, hc, ?_⟩⟩
    have h2 : (ints xs).take k = ints (xs.take k) := by simp [ints]
    rw [← h2, ← ht, List.take_take]
    congr 1
    omega
theorem next_take {o : List Int} {k : Nat} {p : Int} {m : Nat} (hm : m < o.length) (h : ∀ x ∈ o.take m, x ≠ p) (hp : o[m] = p) : nextO o k p = o.take (m + 1) ++ [(k : Int)] := by
  have e : o = o.take m ++ p :: o.drop (m + 1) := by
    conv => lhs; rw [← List.take_append_drop m o, List.drop_eq_getElem_cons hm, hp]
  unfold nextO
  conv => lhs; rw [e]
  rw [tw_at (fun h2 => h p h2 rfl), List.take_succ_eq_append_getElem hm, hp]
  simp
theorem nestP_cons (l : List Nod) (o : List Int) (k : Nat) (n : Nod) (r : List Nod) : nestP l o k (n :: r) = (o.contains n.parent && (bareB l n && (decide ((nextO o k n.parent).length ≤ 32) && nestP l (nextO o k n.parent) (k + 1) r))) := rfl
theorem in_first {p : Int} : ∀ {o : List Int}, p ∈ o → ∃ m, ∃ h : m < o.length, (∀ x ∈ o.take m, x ≠ p) ∧ o[m] = p := by
  intro o h
  obtain ⟨a, b, e, hn⟩ := first_at h
  refine ⟨a.length, by rw [e]; simp, ?_, ?_⟩
  · intro x hx e2
    subst e2
    rw [e, List.take_left' rfl] at hx
    exact hn hx
  · simp [e]
end Go.Proofs.YtbfodbejdaafaaaGreatDoor
