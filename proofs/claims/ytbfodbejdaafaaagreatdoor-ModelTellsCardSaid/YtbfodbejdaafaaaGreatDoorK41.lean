/- The texts RefTree4, joined. -/
import Derived.Test.YtbfodbejdaafaaaGreatDoorK40
/- The statements' own tree that grows: what an Open does. -/
namespace Go.Proofs.YtbfodbejdaafaaaGreatDoor
open Go.RowKit
set_option maxHeartbeats 400000
set_option linter.unusedVariables false

variable {w : World} {base g : Nat} {v1 v2 v3 v4 : Value} {xs : List ByteArray} {G : Gro}
set_option maxHeartbeats 8000000 in
set_option maxRecDepth 20000 in
/-- an Open behind others -/
theorem r_take_open1 (X Y : ByteArray) (A : Option Addr) (n c : Nat) (em : Bool) (t : Tok) (w : World) (M : Nat → Prop) (hG : GrV w base g v1 v2 v3 v4 xs G) (ho : Okg G) (hk : t.kind = 1) (hX : X.data.toList = t.name) (hA : RdI 2 AttrI w M A n c t.attrs) (hem : em = t.empty) (hn : n ≤ 1000000) {k : Nat} {r : List Int} (hr : G.opn = r ++ [(k : Int)]) (ht : topG G = (k : Int)) (hkl : k < G.l.length) (hE : takeE G t = 0) :
    Calls Tryz.prog 32 #[.pointer (some ⟨g, 0, none⟩), .agg #[.int .i64 1, .string X, .string Y, .slice A n c, .bool em]] w fun e w' => e = .returned (.int .i64 0) ∧ Fr (fun i => base ≤ i) w w' ∧ GrT w' base g (takeS G t) := by
  have c1 : ∀ o, (w.alloc o).cell? ⟨g, 1, none⟩ = some v2 := fun o => (hG.bk.no ((Fr.refl No w).alloc o)).cell 1
  obtain ⟨b2, c2, rfl, ct, hrl⟩ := hG.top k r hr
  have ct0 : ∀ o, (w.alloc o).cell? ⟨b2, r.length, none⟩ = some (.int .i64 (k : Int)) := fun o => ((Fr.refl No w).alloc o).cell ct (fun x => x)
  obtain ⟨A1, d1, rfl, hd1⟩ := hG.len1
  have htop := ho.top
  have hdeep := ho.deep
  have hfacts : t.name ≠ [] ∧ G.opn.length < 32 ∧ G.l.length < 500 ∧ (topG G < 0 → G.l.length = 0) := by
    unfold takeE at hE
    rw [if_pos hk] at hE
    split at hE
    · cases hE
    split at hE
    · cases hE
    rename_i hh
    split at hE
    · cases hE
    split at hE
    · cases hE
    exact ⟨by assumption, by omega, by omega, fun h => by omega⟩
  obtain ⟨hx0, hop, hll, hz0⟩ := hfacts
  have hXe : (X.toList == []) = false := by rw [beq_eq_false_iff_ne, ba_list, hX]; exact hx0
  have h500 : ¬ (500 : Int) ≤ (G.l.length : Int) := by omega
  have hrn : r.length < 31 := by rw [hr] at hop; simp at hop; omega
  have hkI : ¬ (k : Int) < 0 := by omega
  have h32 : ¬ (32 : Int) ≤ (r.length : Int) + 1 := by omega
  have HEM := Lib.hid hem; have HK := Lib.hid hk; have HTP := Lib.hid ht; have HX := Lib.hid hX; have HO := Lib.hid ho
  have HRL : Hid (G.opn.length = r.length + 1) := Lib.hid (by rw [hr]; simp)
  clear hem
  have HG := Lib.hid hG; have CT := Lib.hid ct; have HA := Lib.hid hA; have HR := Lib.hid hr
  clear hG ct hA hr hE ht hX hx0 hk ho hop hz0 htop hdeep
  have hlt5 : G.l.length < 500 := hll
  go_enter Tryz.func32, Tryz.ntmps32
  go_wp2
  go_name_world u hu
  have H1 := HG.out.start 1 X Y A n c em _ hu
  clear ct0 c1
  obtain ⟨hG1, hTb, hf1⟩ := H1
  have e0 : u.cell? ⟨g, 0, none⟩ = some _ := hG1.bk.cell 0
  have e1 : u.cell? ⟨g, 1, none⟩ = some _ := hG1.bk.cell 1
  have dk : u.cell? ⟨w.heap.size, 0, none⟩ = some (.int .i64 1) := hTb.cell 0
  have dx : u.cell? ⟨w.heap.size, 1, none⟩ = some (.string X) := hTb.cell 1
  have da : u.cell? ⟨w.heap.size, 3, none⟩ = some (.slice A n c) := hTb.cell 3
  have dt := hf1.cell CT.out (fun x => x)
  have hwr : IntKind.i64.wrap (r.length : Int) = (r.length : Int) := IntWalk.i64_in _ ⟨by omega, by omega⟩
  go_quiet (fail)
  go_wp2
  go_name_world u3 hu3
  have hdu : Dr u u3 := by rw [← hu3]; first | exact (((Dr.refl u).drewN _).drewN _).drewN _ | exact ((Dr.refl u).drewN _).drewN _ | exact (Dr.refl u).drewN _
  clear hu3
  have hd : Dr u u3.drew := hdu.drew
  have G4 := hG1.no hdu.fr
  have e0 : u3.cell? ⟨g, 0, none⟩ = some _ := G4.bk.cell 0
  have hTb3 := hTb.no hdu.fr
  have dx : u3.cell? ⟨w.heap.size, 1, none⟩ = some (.string X) := hTb3.cell 1
  have da : u3.cell? ⟨w.heap.size, 3, none⟩ = some (.slice A n c) := hTb3.cell 3
  have hA3 := (HA.out.no attr_ok hf1).dr attr_ok hd
  have hG3 := hG1.no hd.fr
  have l1 := hG3.o1.lt
  have hgl := hG3.bk.lt
  have hlow := hG3.low
  have HG3 := Lib.hid hG3; have HT3 := Lib.hid hTb3
  clear hu hG1 hTb G4 hTb3 hG3 e1 dk dt
  go_cut [] from 57 to 72 (fun wx => ∃ A7 c7, GrV wx base g (.slice A7 (G.l.length + 1) c7) (.slice (some ⟨b2, 0, none⟩) (r.length + 1) c2) v3 v4 xs { G with l := G.l ++ [⟨(k : Int), X.data.toList, [], t.attrs⟩] } ∧ Fr (fun i => base ≤ i) u3 wx ∧ Bk wx w.heap.size 68 (tkL 1 X Y A n c em))
  case first =>
    go_region_law (first
      | (refine stepAt rfl (.const (.slice none 0 0)) (.tmp 66) rfl (by rfl) A n c M t.attrs (by rfl) hA3 (by omega) ?_; intro A5 c5 w5 hr5 hf5; have hs5 := hf5.size; have e05 := hf5.cell e0 (fun x => x); have e5x := hf5.cell dx (fun x => x); have e5a : ∀ o, (w5.alloc o).cell? ⟨g, 0, none⟩ = some (.slice A1 G.l.length d1) := fun o => ((Fr.refl No w5).alloc o).cell e05 (fun x => x))
      | (refine stepNd rfl (.tmp 61) (.tmp 69) rfl base (.slice A1 G.l.length d1) G.l.length G.l _ (fun i => i = u3.drew.heap.size) (by rfl) ((HG3.out.o1.no nod_ok hf5).no nod_ok ((Fr.refl No w5).alloc _)) ⟨(k : Int), X.data.toList, [], t.attrs⟩ [.int .i64 (k : Int), .string X, .string ⟨#[]⟩, .slice A5 n c5] ⟨X, ⟨#[]⟩, A5, n, c5, rfl, rfl, rfl, hr5.no attr_ok ((Fr.refl No w5).alloc _)⟩ ⟨w5.heap.size, 0, none⟩ (by rfl) (RdS.lit w5 _ _ 1 rfl (by simp [maxLen])) (by omega) (by simp; omega) (fun i hi => hi.2.2.2.1) (fun i hi e => by have := (l1 i e).2; omega) ?_; intro A7 c7 w7 ho7 hf7 hv7; have b7 := ((HG3.out.bk.no hf5).no ((Fr.refl No w5).alloc _)).fr hf7 HG3.out.ap.g1; have y7 : w7.cell? ⟨g, 0, none⟩ = some _ := b7.cell 0; have z7 := b7.frozen 0))
    all_goals
      go_wp2_with fail
      go_meet
      have hsz : (w5.alloc (.cells #[.int .i64 (k : Int), .string X, .string ⟨#[]⟩, .slice A5 n c5] 54)).heap.size = w5.heap.size + 1 := by simp
      have hs7 := hf7.size
      have hsd : u3.drew.heap.size = u3.heap.size := rfl
      have m2 := HG3.out.o2.lt
      have m3 := HG3.out.o3.lt
      have m4 := HG3.out.o4.lt
      have hvv : (Value.slice A7 (G.l.length + 1) c7).ownBlock = (Value.slice A1 G.l.length d1).ownBlock ∨ ∀ i, (Value.slice A7 (G.l.length + 1) c7).ownBlock = some i → w5.heap.size + 1 ≤ i :=
        hv7.imp id (fun h i e => by rw [h] at e; injection e with e; omega)
      have hG5 := (HG3.out.no hf5).no ((Fr.refl No w5).alloc (.cells #[.int .i64 (k : Int), .string X, .string ⟨#[]⟩, .slice A5 n c5] 54))
      have hne : ∀ i, (Value.slice A1 G.l.length d1).ownBlock ≠ some i → i < w5.heap.size + 1 → (Value.slice A7 (G.l.length + 1) c7).ownBlock ≠ some i := by
        intro i h1 h2
        rcases hvv with hv | hv
        · rw [hv]; exact h1
        · intro e; have := hv i e; omega
      have ho8 : OwnI 4 NodI w7 base 54 (Deep w7 base g (.slice A7 (G.l.length + 1) c7) (.slice (some ⟨b2, 0, none⟩) (r.length + 1) c2) v3 v4) (.slice A7 (G.l.length + 1) c7) (G.l ++ [(⟨(k : Int), X.data.toList, [], t.attrs⟩ : Nod)]).length (G.l ++ [(⟨(k : Int), X.data.toList, [], t.attrs⟩ : Nod)]) := by
        rw [show (G.l ++ [(⟨(k : Int), X.data.toList, [], t.attrs⟩ : Nod)]).length = G.l.length + 1 from by simp]
        refine ho7.mono nod_ok (fun i hi => ?_)
        rcases hi with hi | hi
        · have h1 := hi.2.1
          exact ⟨hi.1, by omega, hi.2.2.1, hne i hi.2.2.2.1 (by omega), hi.2.2.2.2⟩
        · have hi : i = u3.drew.heap.size := hi
          refine ⟨by omega, by omega, by omega, hne i (fun e => by have := (l1 i e).2; omega) (by omega), fun e => by have := (m2 i e).2; omega, fun e => by have := (m3 i e).2; omega, fun e => by have := (m4 i e).2; omega⟩
      exact ⟨A7, c7, hG5.put1 hf7 ho8 (hvv.imp id (fun h i e => by have := h i e; omega)), ((((Fr.refl (fun i => base ≤ i) u3).drew.trans hf5.no).alloc _).trans_new hf7 (fun i e => .inl (l1 i e).1)).setCell (p := (⟨g, 0, none⟩ : Addr)) (.inl hlow) _,
        ((((HT3.out.no ((Fr.refl No u3).drew)).no hf5).no ((Fr.refl No w5).alloc _)).fr hf7 (fun e => by have := (HG.out.o1.lt _ e).2; omega)).fr ((Fr.refl (Just g) w7).setCell (p := (⟨g, 0, none⟩ : Addr)) (.inl (Just.at g)) (.slice A7 (G.l.length + 1) c7)) (fun e => by have e : w.heap.size = g := e; have := HG.out.bk.lt; omega)⟩
  case rest =>
    obtain ⟨W1, rfl⟩ : ∃ W1, W1 = wc := ⟨_, rfl⟩
    obtain ⟨A7, c7, hG7, hf7, hT7⟩ := hcut
    have e2 : W1.cell? ⟨g, 2, none⟩ = some v3 := hG7.bk.cell 2
    have e3 : W1.cell? ⟨g, 3, none⟩ = some v4 := hG7.bk.cell 3
    have e2a : ∀ o, (W1.alloc o).cell? ⟨g, 2, none⟩ = some v3 := fun o => ((Fr.refl No W1).alloc o).cell e2 (fun x => x)
    have e3a : ∀ o, (W1.alloc o).cell? ⟨g, 3, none⟩ = some v4 := fun o => ((Fr.refl No W1).alloc o).cell e3 (fun x => x)
    have e2d : ∀ o, (W1.drew.alloc o).cell? ⟨g, 2, none⟩ = some v3 := fun o => ((Fr.refl No W1).drew.alloc o).cell e2 (fun x => x)
    have e3d : ∀ o, (W1.drew.alloc o).cell? ⟨g, 3, none⟩ = some v4 := fun o => ((Fr.refl No W1).drew.alloc o).cell e3 (fun x => x)
    have e2b : ∀ o o', ((W1.alloc o).alloc o').cell? ⟨g, 2, none⟩ = some v3 := fun o o' => (((Fr.refl No W1).alloc o).alloc o').cell e2 (fun x => x)
    have e3b : ∀ o o', ((W1.alloc o).alloc o').cell? ⟨g, 3, none⟩ = some v4 := fun o o' => (((Fr.refl No W1).alloc o).alloc o').cell e3 (fun x => x)
    have d4 : W1.cell? ⟨w.heap.size, 4, none⟩ = some (.bool em) := hT7.cell 4
    have hbW : base ≤ W1.heap.size := Nat.le_trans hG7.low (Nat.le_of_lt hG7.bk.lt)
    have hxl : xs.length ≤ 500 := by
      have h1 := congrArg List.length HG.out.ex
      have h2 := HO.out.txt
      have h3 := HO.out.top
      simp at h1
      omega
    have hil : G.ink.length ≤ 500 := by
      have h2 := HO.out.ink
      have h3 := HO.out.top
      omega
    have hwl : w.heap.size < W1.heap.size := hT7.lt
    have HG7 := Lib.hid hG7; have HT7 := Lib.hid hT7; have HF7 := Lib.hid hf7
    clear hG7 hT7 hf7
    go_wp2_with fail
    go_cut [] from 73 to 90 (fun wx => ∃ A8 n8 c8 A9 n9 c9, GrV wx base g (.slice A7 (G.l.length + 1) c7) (.slice (some ⟨b2, 0, none⟩) (r.length + 1) c2) (.slice A8 n8 c8) (.slice A9 n9 c9) (xs ++ [(⟨#[]⟩ : ByteArray)]) { ({ G with l := G.l ++ [⟨(k : Int), X.data.toList, [], t.attrs⟩] } : Gro) with txt := (xs ++ [(⟨#[]⟩ : ByteArray)]).map (fun x => x.data.toList), ink := G.ink ++ [false] } ∧ Fr (fun i => base ≤ i) W1 wx ∧ Bk wx w.heap.size 68 (tkL 1 X Y A n c em))
    case first =>
      go_region_law (first
        | (refine stepS1 rfl (.tmp 78) (.tmp 79) rfl base v3 xs.length xs (by rfl) (by first | exact (HG7.out.no ((Fr.refl No W1).alloc _).drew).o3 | exact (HG7.out.no (((Fr.refl No W1).alloc _).alloc _).drew).o3) _ _ ⟨#[]⟩ (by rfl) (by first | exact (lit_s _ _ _).no (Fr.refl No _).drew | exact (lit_s2 _ _ _ _).no (Fr.refl No _).drew | exact (lit_s _ _ _).no ((Fr.refl No _).alloc _).drew) (by omega) (by first | omega | (simp; omega)) ?_
           intro A8 c8 w8 ho8 hf8 hv8
           have F8 : Fr (fun i => v3.ownBlock = some i) W1 w8 := (by first | exact ((Fr.refl _ W1).alloc _).drew.trans hf8 | exact (((Fr.refl _ W1).alloc _).alloc _).drew.trans hf8)
           have V8 : (Value.slice A8 (xs.length + 1) c8).ownBlock = v3.ownBlock ∨ ∀ i, (Value.slice A8 (xs.length + 1) c8).ownBlock = some i → W1.heap.size ≤ i := hv8.imp id (fun h i e => by rw [h] at e; simp at e; omega)
           have RK8 := fun (k c : Nat) (l : List Value) (hk : W1.heap.size ≤ k) (hr : Rd _ (some ⟨k, 0, none⟩) 1 c l) => hr.fr hf8 (fun ad e h => by injection e with e; subst e; have := (HG7.out.o3.lt k h).2; omega)
           have b8 := HG7.out.bk.fr F8 HG7.out.ap.g3
           have y82 : w8.cell? ⟨g, 2, none⟩ = some v3 := b8.cell 2
           have y83 : w8.cell? ⟨g, 3, none⟩ = some v4 := b8.cell 3
           have y83a : ∀ o, (w8.alloc o).cell? ⟨g, 3, none⟩ = some v4 := fun o => ((Fr.refl No w8).alloc o).cell y83 (fun x => x)
           have O8 := Lib.hid ho8
           have s8 := F8.size
           clear ho8 hf8 hv8 b8)
        | (refine stepB1 rfl (.tmp 84) (.tmp 85) rfl base v4 G.ink.length G.ink (by rfl) (by first | exact F8.own HG7.out.o4 (fun i e e2 => HG7.out.ap.h34 i e2 e) | exact (F8.own HG7.out.o4 (fun i e e2 => HG7.out.ap.h34 i e2 e)).alloc _) _ _ false (by rfl) (by first | exact lit_b _ _ _ | exact RK8 _ _ _ (Nat.le_succ _) ((lit_b2 _ _ _ _).no (Fr.refl No _).drew) | exact RK8 _ _ _ (Nat.le_refl _) ((lit_b _ _ _).no ((Fr.refl No _).alloc _).drew)) (by omega) (by first | omega | (simp; omega)) ?_
           intro A9 c9 w9 ho9 hf9 hv9
           have N8 : ∀ i, (Value.slice A8 (xs.length + 1) c8).ownBlock = some i → ¬ v4.ownBlock = some i := (fun i e e4 => by
             rcases V8 with h | h
             · rw [h] at e; exact HG7.out.ap.h34 i e e4
             · have := h i e; have := (HG7.out.o4.lt i e4).2; omega)
           have F9 : Fr (fun i => v3.ownBlock = some i ∨ v4.ownBlock = some i) W1 w9 := (by first | exact (F8.mono (fun _ h => .inl h)).trans (hf9.mono (fun _ h => .inr h)) | exact ((F8.mono (fun _ h => .inl h)).alloc _).trans (hf9.mono (fun _ h => .inr h)))
           have O9 : w9.ownsRow base 9 1 (.slice A8 (xs.length + 1) c8) (xs.length + 1) (strs (xs ++ [(⟨#[]⟩ : ByteArray)])) := (by first | exact hf9.own O8.out N8 | exact hf9.own (O8.out.alloc _) N8)
           have V9 : (Value.slice A9 (G.ink.length + 1) c9).ownBlock = v4.ownBlock ∨ ∀ i, (Value.slice A9 (G.ink.length + 1) c9).ownBlock = some i → w8.heap.size ≤ i := hv9.imp id (fun h i e => by rw [h] at e; simp at e; omega)
           have b9 := HG7.out.bk.fr F9 (fun e => e.elim HG7.out.ap.g3 HG7.out.ap.g4)
           have y92 : w9.cell? ⟨g, 2, none⟩ = some v3 := b9.cell 2
           have z92 := b9.frozen 2
           have y93 := (b9.set_ 2 (.slice A8 (xs.length + 1) c8)).cell 3
           have z93 := (b9.set_ 2 (.slice A8 (xs.length + 1) c8)).frozen 3
           have O99 := Lib.hid ho9
           clear ho9 hf9 hv9 b9))
      all_goals
        go_wp2_with fail
        go_meet
        refine ⟨A8, xs.length + 1, c8, A9, G.ink.length + 1, c9, HG7.out.put34 F9 (v3' := .slice A8 (xs.length + 1) c8) (v4' := .slice A9 (G.ink.length + 1) c9) (xs' := xs ++ [(⟨#[]⟩ : ByteArray)]) (ink' := G.ink ++ [false]) (by rw [show (xs ++ [(⟨#[]⟩ : ByteArray)]).length = xs.length + 1 from by simp]; exact O9) (by rw [show (G.ink ++ [false]).length = G.ink.length + 1 from by simp]; exact O99.out) V8 (V9.imp id (fun h i e => Nat.le_trans s8 (h i e))) (fun i e e9 => ?_), ?_, ?_⟩
        · rcases V9 with h | h
          · rw [h] at e9; exact N8 i e e9
          · have := h i e9; have := (O8.out.lt i e).2; omega
        · exact ((F9.mono (fun i h => h.elim (fun h => (HG7.out.o3.lt i h).1) (fun h => (HG7.out.o4.lt i h).1))).setCell (p := (⟨g, 2, none⟩ : Addr)) (.inl HG7.out.low) _).setCell (p := (⟨g, 3, none⟩ : Addr)) (.inl HG7.out.low) _
        · refine ((HT7.out.fr F9 (fun h => ?_)).fr ((Fr.refl (Just g) w9).setCell (p := (⟨g, 2, none⟩ : Addr)) (.inl (Just.at g)) (.slice A8 (xs.length + 1) c8)) (fun e => ?_)).fr ((Fr.refl (Just g) _).setCell (p := (⟨g, 3, none⟩ : Addr)) (.inl (Just.at g)) (.slice A9 (G.ink.length + 1) c9)) (fun e => ?_)
          · rcases h with h | h
            · have := (HG.out.o3.lt _ h).2; omega
            · have := (HG.out.o4.lt _ h).2; omega
          · have e : w.heap.size = g := e; have := HG.out.bk.lt; omega
          · have e : w.heap.size = g := e; have := HG.out.bk.lt; omega
    case rest =>
      obtain ⟨W2, rfl⟩ : ∃ W2, W2 = wc := ⟨_, rfl⟩
      obtain ⟨A8, n8, c8, A9, n9, c9, hG8, hf8, hT8⟩ := hcut
      clear e2 e3 e2a e3a e2d e3d e2b e3b d4
      have d4 : W2.cell? ⟨w.heap.size, 4, none⟩ = some (.bool em) := hT8.cell 4
      have hE2 : takeS G t = ⟨G.l ++ [⟨(k : Int), X.data.toList, [], t.attrs⟩], if em then G.opn else G.opn ++ [(G.l.length : Int)], (xs ++ [(⟨#[]⟩ : ByteArray)]).map (fun x => x.data.toList), G.ink ++ [false]⟩ := by
        unfold takeS
        rw [if_pos HK.out, HTP.out, HX.out, HEM.out, List.map_append, HG.out.ex]
        rfl
      have HG8 := Lib.hid hG8; have HF8 := Lib.hid hf8; have HE2 := Lib.hid hE2
      clear hG8 hf8 hT8 hE2
      cases em with
      | true =>
        go_wp2_with fail
        go_ret
        refine ⟨rfl, ?_, ?_⟩
        · exact ((hf1.no.trans hdu.fr.no).trans HF7.out).trans HF8.out
        · rw [HE2.out]
          exact ⟨_, _, _, _, _, HG8.out⟩
      | false =>
        have e0 : W2.cell? ⟨g, 0, none⟩ = some (.slice A7 (G.l.length + 1) c7) := HG8.out.bk.cell 0
        have e1 : W2.cell? ⟨g, 1, none⟩ = some (.slice (some ⟨b2, 0, none⟩) (r.length + 1) c2) := HG8.out.bk.cell 1
        have e0a : ∀ o, (W2.alloc o).cell? ⟨g, 0, none⟩ = some (.slice A7 (G.l.length + 1) c7) := fun o => ((Fr.refl No W2).alloc o).cell e0 (fun x => x)
        have e1a : ∀ o, (W2.alloc o).cell? ⟨g, 1, none⟩ = some (.slice (some ⟨b2, 0, none⟩) (r.length + 1) c2) := fun o => ((Fr.refl No W2).alloc o).cell e1 (fun x => x)
        have hw9 : IntKind.i64.wrap (G.l.length : Int) = (G.l.length : Int) := IntWalk.i64_in _ ⟨by omega, by omega⟩
        have hb2 : base ≤ W2.heap.size := Nat.le_trans HG8.out.low (Nat.le_of_lt HG8.out.bk.lt)
        have hol := HO.out.deep
        go_wp2_with fail
        go_region_law (first
          | (refine stepI rfl (.tmp 98) (.tmp 105) rfl base (.slice (some ⟨b2, 0, none⟩) (r.length + 1) c2) (r.length + 1) G.opn (by rfl) (by have h := (HG8.out.no ((Fr.refl No W2).alloc (.cells #[.int .i64 (G.l.length : Int)] 3)).drew).o2; rw [show ({ ({ G with l := G.l ++ [⟨(k : Int), X.data.toList, [], t.attrs⟩] } : Gro) with txt := (xs ++ [(⟨#[]⟩ : ByteArray)]).map (fun x => x.data.toList), ink := G.ink ++ [false] } : Gro).opn.length = r.length + 1 from HRL.out] at h; exact h) _ _ _ [(G.l.length : Int)] (by rfl) ((Rd.oneI _ _).no (Fr.refl No _).drew) (by omega) (by simp; omega) ?_
             intro AV cV w9 ho9 hg9 hv9
             have F9 : Fr (fun i => ((.slice (some ⟨b2, 0, none⟩) (r.length + 1) c2) : Value).ownBlock = some i) W2 w9 := ((Fr.refl _ W2).alloc _).drew.grown hg9 (fun g e => .inl e)
             have b9 := HG8.out.bk.fr F9 HG8.out.ap.g2
             have y91 : w9.cell? ⟨g, 1, none⟩ = some _ := b9.cell 1
             have z91 := b9.frozen 1
             clear b9))
        all_goals
          go_wp2_with fail
          go_ret
          refine ⟨rfl, ?_, ?_⟩
          · exact ((((hf1.no.trans hdu.fr.no).trans HF7.out).trans HF8.out).trans (F9.mono (fun i h => (HG8.out.o2.lt i h).1))).setCell (p := (⟨g, 1, none⟩ : Addr)) (.inl HG8.out.low) _
          · rw [HE2.out]
            exact ⟨_, _, _, _, _, HG8.out.put2 F9 (v2' := .slice AV (r.length + 1 + 1) cV) (opn' := G.opn ++ [(G.l.length : Int)]) (by rw [show (G.opn ++ [(G.l.length : Int)]).length = r.length + 1 + 1 from by simp [HRL.out]]; exact ho9) (hv9.imp id (fun h i e => by rw [h] at e; simp at e; omega))⟩
end Go.Proofs.YtbfodbejdaafaaaGreatDoor
