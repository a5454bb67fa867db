/- The texts RefTree1, RefTok8, joined. -/
import Derived.Test.YtbfodbejdaafaaaGreatDoorK20
import Derived.Test.YtbfodbejdaafaaaGreatDoorK26
import Derived.Test.YtbfodbejdaafaaaGreatDoorK24
/- The statements' own tree that grows: what a Close and a Text do. -/
namespace Go.Proofs.YtbfodbejdaafaaaGreatDoor
open Go.RowKit
set_option maxHeartbeats 400000
set_option linter.unusedVariables false

variable {w : World} {base g : Nat} {v1 v2 v3 v4 : Value} {xs : List ByteArray} {G : Gro}
/-- the innermost one that is open: how the walk reads it -/
theorem GrV.top (h : GrV w base g v1 v2 v3 v4 xs G) (k : Nat) (r : List Int) (ho : G.opn = r ++ [(k : Int)]) : ∃ b2 c2, v2 = .slice (some ⟨b2, 0, none⟩) (r.length + 1) c2 ∧ w.cell? ⟨b2, r.length, none⟩ = some (.int .i64 (k : Int)) ∧ r.length + 1 ≤ 9223372036854775807 := by
  have h2 := h.o2
  rw [ho] at h2
  have hl : (r ++ [(k : Int)]).length = r.length + 1 := by simp
  rw [hl] at h2
  obtain ⟨b2, c2, rfl, _, hnc, hc, _⟩ := own_open h2 (by omega)
  obtain ⟨A, n, c, hr⟩ := Rd.of_own h2
  injection c with c1 c2' c3
  have := hr.1.max
  have := hr.1.cap
  simp only [maxLen] at *
  exact ⟨b2, c2, rfl, hc r.length _ (by simp [ints]), by omega⟩

/-- how many are open: how the walk reads it -/
theorem GrV.none_ (h : GrV w base g v1 v2 v3 v4 xs G) (ho : G.opn = []) : ∃ A2 c2, v2 = .slice A2 0 c2 := by
  have h2 := h.o2
  rw [ho] at h2
  obtain ⟨A, c, e, hr, _⟩ := Rd.of_own h2
  exact ⟨A, c, e⟩
/-- nodes: how many there are -/
theorem GrV.len1 (h : GrV w base g v1 v2 v3 v4 xs G) : ∃ A1 c1, v1 = .slice A1 G.l.length c1 ∧ G.l.length ≤ c1 := by
  obtain ⟨ys, ho, _⟩ := h.o1.xs
  obtain ⟨A, c, e, hr, _⟩ := RdS.of_own ho
  exact ⟨A, c, e, hr.cap⟩
/-- a node's name: how the walk reads it -/
theorem GrV.name (h : GrV w base g v1 v2 v3 v4 xs G) {k : Nat} (hk : k < G.l.length) : ∃ b1 c1 X, v1 = .slice (some ⟨b1, 0, none⟩) G.l.length c1 ∧ w.cell? ⟨b1, k * 4 + 1, none⟩ = some (.string X) ∧ X.data.toList = G.l[k].name := by
  obtain ⟨ys, ho, hi⟩ := h.o1.xs
  have hat := ItemsF.at_ nod_ok hi k hk
  obtain ⟨X, Y, A, n, c, hcs, hX, _⟩ := hat
  have hlen := ItemsF.len nod_ok hi
  rcases ho.2 with ⟨_, e⟩ | ⟨b1, cap, cur, e1, _, hg, hn, hm, hc, ht⟩
  · rw [e] at hlen
    simp at hlen
    omega
  · refine ⟨b1, cap, X, e1, ?_, hX⟩
    obtain ⟨A', c', e2, hr, _⟩ := RdS.of_own ho
    rw [e1] at e2
    injection e2 with e2 e3 e4
    have h1 : ((ys.drop (k * 4)).take 4)[1]? = some (.string X) := by rw [hcs]; rfl
    rw [List.getElem?_take, if_pos (by omega), List.getElem?_drop] at h1
    have h2 := hr.cells _ e2.symm _ _ h1
    rwa [show (⟨b1, 0, none⟩ : Addr).add (k * 4 + 1) = ⟨b1, k * 4 + 1, none⟩ from by simp [Addr.add]] at h2

theorem Rd.headG {w : World} {A : Option Addr} {n c : Nat} {ys : List Value} (h : Rd w A n c ys) {m : Nat} (hm : m ≤ n) : Rd w A m c (ys.take m) := by
  have h1 := h.len
  refine ⟨by rw [List.length_take]; omega, Nat.le_trans hm h.cap, h.max, h.nil, fun ad e j u hu => h.cells ad e j u ?_⟩
  rw [List.getElem?_take] at hu
  split at hu
  · exact hu
  · cases hu
/-- a token that came in, in a block of its own -/
def tkL (k : Int) (X Y : ByteArray) (A : Option Addr) (n c : Nat) (em : Bool) : List Value := [.int .i64 k, .string X, .string Y, .slice A n c, .bool em]
/-- the token's block, laid at the function's start -/
theorem GrV.start (h : GrV w base g v1 v2 v3 v4 xs G) (k : Int) (X Y : ByteArray) (A : Option Addr) (n c : Nat) (em : Bool) (ty : TypeId) {u : World} (hu : w.alloc (.cells #[.int .i64 k, .string X, .string Y, .slice A n c, .bool em] ty) = u) :
    GrV u base g v1 v2 v3 v4 xs G ∧ Bk u w.heap.size ty (tkL k X Y A n c em) ∧ Fr No w u := by
  have hf : Fr No w u := by rw [← hu]; exact (Fr.refl No w).alloc _
  refine ⟨h.no hf, ?_, hf⟩
  rw [← hu]
  exact Bk.new w ty _

set_option maxHeartbeats 4000000 in
set_option maxRecDepth 20000 in
theorem r_take_close (k0 : Int) (X Y : ByteArray) (A : Option Addr) (n c : Nat) (em : Bool) (t : Tok) (w : World) (hG : GrV w base g v1 v2 v3 v4 xs G) (ho : Okg G) (hk : t.kind = 2) (hX : X.data.toList = t.name) :
    Calls Tryz.prog 32 #[.pointer (some ⟨g, 0, none⟩), .agg #[.int .i64 2, .string X, .string Y, .slice A n c, .bool em]] w fun e w' => e = .returned (.int .i64 (takeE G t)) ∧ Fr (fun i => base ≤ i) w w' ∧ (takeE G t = 0 → GrT w' base g (takeS G t)) := by
  have c1 : ∀ o, (w.alloc o).cell? ⟨g, 1, none⟩ = some v2 := fun o => (hG.bk.no ((Fr.refl No w).alloc o)).cell 1
  rcases top_cases G ho with ⟨h0, ht⟩ | ⟨k, r, hr, ht, hkl⟩
  · have hE : takeE G t = 10 := by unfold takeE; rw [if_neg (by omega), if_pos hk, if_pos (.inl (by omega))]
    rw [hE]
    obtain ⟨A2, c2, rfl⟩ := hG.none_ h0
    obtain ⟨A1, d1, rfl, hd1⟩ := hG.len1
    clear h0 ht hk hX ho hE
    go_enter Tryz.func32, Tryz.ntmps32
    go_wp2
    go_quiet (fail)
    go_wp2
    go_ret
    exact ⟨rfl, ((Fr.refl _ _).alloc _).drewN _, fun e => by cases e⟩
  · obtain ⟨b2, c2, rfl, ct, hrl⟩ := hG.top k r hr
    obtain ⟨b1, d1, Z, rfl, cn, hZ⟩ := hG.name hkl
    obtain ⟨A1, d1', e1, hd1⟩ := hG.len1
    injection e1 with e1 _ e3
    subst e3
    clear e1
    have ct0 : ∀ o, (w.alloc o).cell? ⟨b2, r.length, none⟩ = some (.int .i64 (k : Int)) := fun o => ((Fr.refl No w).alloc o).cell ct (fun x => x)
    have hT : nameAt G.l (topG G) = Z.data.toList := by unfold nameAt; rw [ht, Int.toNat_natCast, List.getElem?_eq_getElem hkl, hZ]; rfl
    have hkI : ¬ (k : Int) < 0 := by omega
    have htop := ho.top
    by_cases hne : Z.data.toList = X.data.toList
    · have hE : takeE G t = 0 := by unfold takeE; rw [if_neg (by omega), if_pos hk, if_neg]; rintro (h | h); omega; exact h (by rw [hT, hne, hX])
      have hb : (Z.toList == X.toList) = true := by rw [beq_iff_eq, ba_list, ba_list]; exact hne
      have hS : takeS G t = { G with opn := r } := by unfold takeS; rw [if_neg (by omega), if_pos hk, hr]; simp
      rw [hE, hS]
      have HG := Lib.hid hG; have HO := Lib.hid ho; have HR := Lib.hid hr; have CN := Lib.hid cn; have CT := Lib.hid ct
      clear hE hS hT hk hne hZ hX hr ht ho hG ct cn
      go_enter Tryz.func32, Tryz.ntmps32
      go_wp2
      go_name_world u hu
      have H1 := HG.out.start 2 X Y A n c em _ hu
      clear ct0 c1
      obtain ⟨hG1, hTb, hf1⟩ := H1
      have d0 : u.cell? ⟨g, 0, none⟩ = some _ := hG1.bk.cell 0
      have d1' : u.cell? ⟨g, 1, none⟩ = some _ := hG1.bk.cell 1
      have z1 := hG1.bk.frozen 1
      have dk : u.cell? ⟨w.heap.size, 0, none⟩ = some (.int .i64 2) := hTb.cell 0
      have dx : u.cell? ⟨w.heap.size, 1, none⟩ = some (.string X) := hTb.cell 1
      have dn := hf1.cell CN.out (fun x => x)
      have dt := hf1.cell CT.out (fun x => x)
      have hwr : IntKind.i64.wrap (r.length : Int) = (r.length : Int) := IntWalk.i64_in _ ⟨by omega, by omega⟩
      have hrd : Rd u (some ⟨b2, 0, none⟩) r.length c2 (ints r) := by
        obtain ⟨A', c', e', hr', _⟩ := Rd.of_own hG1.o2
        injection e' with e1 e2 e3
        rw [← e1, ← e3] at hr'
        have h := hr'.headG (m := r.length) (by rw [HR.out]; simp)
        rw [HR.out] at h
        simpa [ints] using h
      have hrl5 : r.length ≤ 32 := by have := HO.out.deep; rw [HR.out] at this; simp at this; omega
      have hbs : base ≤ u.heap.size := Nat.le_trans hG1.low (Nat.le_of_lt hG1.bk.lt)
      have HG1 := Lib.hid hG1; have HTB := Lib.hid hTb
      clear hu hG1 hTb
      go_quiet (fail)
      go_wp2
      go_quiet (fail)
      go_wp2
      go_name_world u3 hu3
      have hdu : Dr u u3 := by rw [← hu3]; exact ((Dr.refl u).drewN _).drewN _
      clear hu3
      have hd : Dr u u3.drew := hdu.drew
      have G4 := HG1.out.no hdu.fr
      have y0 : u3.cell? ⟨g, 0, none⟩ = some _ := G4.bk.cell 0
      have y1 : u3.cell? ⟨g, 1, none⟩ = some _ := G4.bk.cell 1
      have hrd4 := hrd.dr hd
      have hbs4 : base ≤ u3.drew.heap.size := by rw [hd.heap]; exact hbs
      have HG4 := Lib.hid G4
      clear G4
      have hcc := hrd.cap
      have e4 : (r.length : Int) ≤ (c2 : Int) := by omega
      have e5 : (0 : Int) ≤ (r.length : Int) := by omega
      go_region_law (refine stepI rfl (.const (.slice none 0 0)) (.tmp 137) rfl base (.slice none 0 0) 0 [] (by rfl) (World.ownsRow_nil _ _ _ _) (some ⟨b2, 0, none⟩) r.length c2 r (by rfl) hrd4 (by omega) hbs4 ?_; intro AV cV w2 ho2 hg2 hv2; have hf2 : Fr No u w2 := hd.fr.grown hg2 (by simp [Value.ownBlock]); have G2 := HG1.out.no hf2; have y21 := G2.bk.frozen 1; have y2c : w2.cell? ⟨g, 1, none⟩ = some _ := G2.bk.cell 1)
      all_goals
        go_wp2
        go_ret
        rw [Nat.zero_add] at ho2
        have hz := hf2.size
        refine ⟨rfl, ((hf1.trans hf2).no.setCell (p := ⟨g, 1, none⟩) (.inl HG1.out.low) _), fun _ => ⟨_, _, _, _, _, HG1.out.put2 (v2' := .slice AV r.length cV) (hf2.mono (fun _ x => x.elim)) (by simpa using ho2) (.inr (fun i e => ?_))⟩⟩
        rcases hv2 with h | h
        · rw [Nat.zero_add] at h
          rw [h] at e
          simp [Value.ownBlock] at e
        · rw [Nat.zero_add] at h
          rw [h] at e
          injection e with e
          rw [← e, hd.heap]
          exact Nat.le_refl _
    · have hE : takeE G t = 10 := by unfold takeE; rw [if_neg (by omega), if_pos hk, if_pos]; exact .inr (fun h => hne (by rw [← hT, h, hX]))
      have hb : (Z.toList == X.toList) = false := by rw [beq_eq_false_iff_ne, ba_list, ba_list]; exact hne
      rw [hE]
      have HG := Lib.hid hG; have CN := Lib.hid cn; have CT := Lib.hid ct
      clear hE hT hk hne hZ hX hr ht ho hG ct cn
      go_enter Tryz.func32, Tryz.ntmps32
      go_wp2
      go_name_world u hu
      have H1 := HG.out.start 2 X Y A n c em _ hu
      clear ct0 c1
      obtain ⟨hG1, hTb, hf1⟩ := H1
      have d0 : u.cell? ⟨g, 0, none⟩ = some _ := hG1.bk.cell 0
      have d1' : u.cell? ⟨g, 1, none⟩ = some _ := hG1.bk.cell 1
      have dk : u.cell? ⟨w.heap.size, 0, none⟩ = some (.int .i64 2) := hTb.cell 0
      have dx : u.cell? ⟨w.heap.size, 1, none⟩ = some (.string X) := hTb.cell 1
      have dn := hf1.cell CN.out (fun x => x)
      have dt := hf1.cell CT.out (fun x => x)
      have hwr : IntKind.i64.wrap (r.length : Int) = (r.length : Int) := IntWalk.i64_in _ ⟨by omega, by omega⟩
      clear hu hG1 hTb
      go_quiet (fail)
      go_wp2
      go_quiet (fail)
      go_wp2
      go_ret
      exact ⟨rfl, (hf1.no.drewN _).drewN _, fun e => by cases e⟩
end Go.Proofs.YtbfodbejdaafaaaGreatDoor
/- The statements' own tokens: a text's value. -/
namespace Go.Proofs.YtbfodbejdaafaaaGreatDoor
open Go.RowKit
set_option maxHeartbeats 1000000
set_option linter.unusedVariables false

/-- a text's value as bytes; none: nothing -/
def valB (l : List UInt8) : List UInt8 := (valV l).getD []
theorem valV_open {r : List UInt8} (h : ∀ b ∈ r, b.toNat ≠ 59) : valV (38 :: r) = none := by
  unfold valV
  rw [List.length_cons, valF_amp]
  have : r.dropWhile (fun b => decide (b.toNat ≠ 59)) = [] := by
    induction r with
    | nil => rfl
    | cons c r ih =>
      rw [List.dropWhile_cons, if_pos (by simpa using h c (by simp))]
      exact ih (fun b hb => h b (by simp [hb]))
  rw [this]
theorem entV_small {s x : List UInt8} (h : entV s = some x) : x ≠ [] ∧ x.length ≤ 4 := by
  unfold entV at h
  split at h
  · injection h with h; subst h; simp
  split at h
  · injection h with h; subst h; simp
  split at h
  · injection h with h; subst h; simp
  split at h
  · injection h with h; subst h; simp
  split at h
  · injection h with h; subst h; simp
  simp only at h
  split at h
  · cases h
  · rename_i v _
    split at h
    · rename_i hc
      injection h with h
      subst h
      have hv : v ≤ 1114111 ∧ ¬ (55296 ≤ v ∧ v ≤ 57343) := by unfold charB at hc; simp at hc; omega
      have he := enc_size hv.1 hv.2
      constructor
      · intro e
        rw [e] at he
        simp at he
      · omega
    · cases h
theorem r_value_any (S : ByteArray) (w : World) (hs : S.size ≤ 65536) :
    Calls Tryz.prog 56 #[.string S] w fun e w' => ∃ R : ByteArray, e = .returned (.tuple #[.string R, .bool (valV S.data.toList).isSome]) ∧ R.data.toList = valB S.data.toList ∧ Fr No w w' := by
  have hsl := size_list S
  have HSL := Lib.hid hsl
  clear hsl
  go_enter Tryz.func56, Tryz.ntmps56
  go_wp2
  go_loopw [4, 5] (fun ov iv wr => ∃ (k : Nat) (O : ByteArray), ov = .string O ∧ iv = .int .i64 (k : Int) ∧ k ≤ S.size ∧ O.size ≤ 4 * k ∧ valV S.data.toList = (valV (S.data.toList.drop k)).map (O.data.toList ++ ·) ∧ Fr No w wr) (fun _ iv _ => S.size - (intOf iv).toNat)
  case atStart => exact ⟨0, ⟨#[]⟩, rfl, rfl, by omega, by decide, by simp, Fr.refl _ _⟩
  case round =>
    obtain ⟨k, O, rfl, rfl, hk, hO, hval, hf⟩ := hrel
    have HV := Lib.hid hval
    clear hval
    by_cases hlt : k < S.size
    · have hltI : (k : Int) < (S.size : Int) := by omega
      have hdr := sdrop_cons S k hlt
      obtain ⟨x, hx⟩ : ∃ x, S[k] = x := ⟨_, rfl⟩
      rw [hx] at hdr
      have HDR := Lib.hid hdr
      clear hdr
      by_cases hx38 : x.toNat = 38
      · have hxb : ((x.toNat : Int) != 38) = false := by rw [hx38]; rfl
        have hx0 : x = 38 := UInt8.toNat_inj.1 hx38
        have HX0 := Lib.hid hx0
        clear hx0 hx38
        go_wp2
        go_loop [6] (fun ev => ∃ e : Nat, ev = .int .i64 (e : Int) ∧ k ≤ e ∧ e ≤ S.size ∧ ∀ j (hj : k ≤ j) (hje : j < e) (hl : j < S.size), S[j].toNat ≠ 59) (fun ev => S.size - (intOf ev).toNat)
        case atStart => exact ⟨k, rfl, by omega, by omega, fun j h1 h2 => by omega⟩
        case round =>
          obtain ⟨e, rfl, hke, hes, hall⟩ := hrel
          have HALL := Lib.hid hall
          clear hall
          by_cases hle : e < S.size
          · have hleI : (e : Int) < (S.size : Int) := by omega
            obtain ⟨y, hy⟩ : ∃ y, S[e] = y := ⟨_, rfl⟩
            by_cases hy59 : y.toNat = 59
            · have hyb : ((y.toNat : Int) != 59) = false := by rw [hy59]; rfl
              have hek : k < e := by
                rcases Nat.lt_or_ge k e with h | h
                · exact h
                · exfalso
                  have e1 : k = e := by omega
                  subst e1
                  rw [hx, HX0.out] at hy
                  rw [← hy] at hy59
                  exact absurd hy59 (by decide)
              have f1 : (0 : Int) ≤ (e : Int) ∧ (e : Int) ≤ (S.size : Int) := by omega
              have f2 : (0 : Int) ≤ (k : Int) + 1 ∧ (k : Int) + 1 ≤ (e : Int) := by omega
              have hne : ((e : Int) == (S.size : Int)) = false := by rw [beq_eq_false_iff_ne]; omega
              obtain ⟨T, hT⟩ : ∃ T, S.extract (k + 1) e = T := ⟨_, rfl⟩
              have hTl : T.data.toList = (S.data.toList.drop (k + 1)).take (e - (k + 1)) := by rw [← hT, ext_list]
              have hTs : T.size ≤ 65536 := by rw [← size_list, hTl, List.length_take]; omega
              have hno : ∀ b ∈ T.data.toList, b.toNat ≠ 59 := by
                intro b hb
                rw [hTl] at hb
                obtain ⟨j, hj, rfl⟩ := List.getElem_of_mem hb
                rw [List.length_take, List.length_drop, HSL.out] at hj
                rw [List.getElem_take, List.getElem_drop]
                exact HALL.out (k + 1 + j) (by omega) (by omega) (by omega)
              have hspl : S.data.toList.drop k = 38 :: T.data.toList ++ (59 :: S.data.toList.drop (e + 1)) := by
                have hy0 : y = 59 := UInt8.toNat_inj.1 hy59
                rw [HDR.out, HX0.out, hTl, List.cons_append]
                congr 1
                have h1 := List.take_append_drop (e - (k + 1)) (S.data.toList.drop (k + 1))
                rw [List.drop_drop, show k + 1 + (e - (k + 1)) = e by omega, sdrop_cons S e hle, hy, hy0] at h1
                exact h1.symm
              have hvk := HV.out
              rw [hspl, valV_ent hno] at hvk
              have hent := fun u => r_entity_any T u hTs
              cases hE : entV T.data.toList with
              | none =>
                rw [hE] at hent hvk
                have h1 : (valV S.data.toList).isSome = false := by rw [hvk]; rfl
                have h2 : valB S.data.toList = [] := by unfold valB; rw [hvk]; rfl
                have H1 := Lib.hid h1; have H2 := Lib.hid h2; have HENT := Lib.hid hent
                clear h1 h2 hvk hent hE hspl hno hTl hTs hy59
                go_wp2_with (go_at_call 77; refine (HENT.out _).mono ?_; rintro e1 w2 ⟨R, rfl, hR, hf2⟩; have hRc : (R.toList == []) = true := by rw [ba_list, hR]; rfl)
                go_ret2
                exact ⟨⟨#[]⟩, by rw [H1.out]; rfl, by rw [H2.out], hf.trans hf2⟩
              | some z =>
                rw [hE] at hent hvk
                obtain ⟨hz0, hz4⟩ := entV_small hE
                have HVK := Lib.hid hvk; have HENT := Lib.hid hent; have HZ0 := Lib.hid hz0; have HZ4 := Lib.hid hz4
                clear hvk hent hE hspl hno hTl hTs hy59 hz0 hz4
                go_wp2_with (go_at_call 77; refine (HENT.out _).mono ?_; rintro e1 w2 ⟨R, rfl, hR, hf2⟩; have hRc : (R.toList == []) = false := (by rw [ba_list, hR, beq_eq_false_iff_ne]; exact HZ0.out); have hRs : R.size ≤ 4 := (by rw [← size_list, hR]; exact HZ4.out))
                go_roundw
                case rel => exact ⟨e + 1, O ++ R, rfl, by go_num, by omega, by rw [← size_list, app_list, hR]; have h1 := size_list O; have h2 := HZ4.out; simp; omega, by
                  rw [HVK.out, app_list, hR, Option.map_map]
                  congr 1
                  funext q
                  simp, hf.trans hf2⟩
                case measure => simp [intOf]; omega
            · have hyb : ((y.toNat : Int) != 59) = true := by rw [bne_iff_ne]; omega
              go_wp2
              go_round
              case rel => exact ⟨e + 1, by go_num, by omega, by omega, fun j h1 h2 hl => by
                by_cases hje : j = e
                · subst hje; rw [hy]; exact hy59
                · exact HALL.out j h1 (by omega) hl⟩
              case measure => simp [intOf]; omega
          · obtain rfl : e = S.size := by omega
            have hltI2 : ¬ (S.size : Int) < (S.size : Int) := by omega
            have hno : ∀ b ∈ S.data.toList.drop (k + 1), b.toNat ≠ 59 := by
              intro b hb
              obtain ⟨j, hj, rfl⟩ := List.getElem_of_mem hb
              rw [List.length_drop, HSL.out] at hj
              rw [List.getElem_drop]
              exact HALL.out (k + 1 + j) (by omega) (by omega) (by omega)
            have hvk := HV.out
            rw [HDR.out, HX0.out, valV_open hno] at hvk
            have h1 : (valV S.data.toList).isSome = false := by rw [hvk]; rfl
            have h2 : valB S.data.toList = [] := by unfold valB; rw [hvk]; rfl
            have H1 := Lib.hid h1; have H2 := Lib.hid h2
            clear h1 h2 hvk hno
            go_wp2
            go_ret2
            exact ⟨⟨#[]⟩, by rw [H1.out]; rfl, by rw [H2.out], hf⟩
      · have hxb : ((x.toNat : Int) != 38) = true := by rw [bne_iff_ne]; omega
        have f1 : (0 : Int) ≤ (k : Int) + 1 ∧ (k : Int) + 1 ≤ (S.size : Int) := by omega
        have f2 : (0 : Int) ≤ (k : Int) ∧ (k : Int) ≤ (k : Int) + 1 := by omega
        go_wp2
        go_roundw
        case rel => exact ⟨k + 1, O ++ S.extract k (k + 1), rfl, by go_num, by omega, by rw [← size_list, app_list, ext_list, HDR.out]; have := size_list O; simp; omega, by
          rw [HV.out, HDR.out, valV_plain hx38, app_list, ext_list, HDR.out, Option.map_map]
          congr 1
          funext z
          simp, hf⟩
        case measure => simp [intOf]; omega
    · obtain rfl : k = S.size := by omega
      have hltI : ¬ (S.size : Int) < (S.size : Int) := by omega
      have hv : valV S.data.toList = some O.data.toList := by
        rw [HV.out, List.drop_eq_nil_of_le (by rw [HSL.out]; exact Nat.le_refl _), valV_nil]
        simp
      have h1 : (valV S.data.toList).isSome = true := by rw [hv]; rfl
      have h2 : valB S.data.toList = O.data.toList := by unfold valB; rw [hv]; rfl
      have H1 := Lib.hid h1; have H2 := Lib.hid h2
      clear h1 h2 hv
      go_wp2
      go_ret2
      exact ⟨O, by rw [H1.out]; rfl, H2.out.symm, hf⟩
end Go.Proofs.YtbfodbejdaafaaaGreatDoor
