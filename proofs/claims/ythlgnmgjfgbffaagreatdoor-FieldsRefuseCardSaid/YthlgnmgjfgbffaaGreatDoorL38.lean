/- The texts FldA1, FldA2, FldA3, joined. -/
import Derived.Test.YthlgnmgjfgbffaaGreatDoorL37
import Derived.Test.YthlgnmgjfgbffaaGreatDoorL42
import Derived.Test.YthlgnmgjfgbffaaGreatDoorL43
/- Package fields: closed messages. -/
namespace Go.Proofs.YthlgnmgjfgbffaaGreatDoor
open Go.RowKit
set_option maxHeartbeats 1000000
set_option linter.unusedVariables false
set_option maxRecDepth 20000

def nowB : List UInt8 := [50, 48, 50, 54, 48, 49, 48, 49, 49, 50, 48, 48, 48, 48]
def askM : MsgC := { mz with kind := 9, stan := 7, time := bstr nowB, acq := bstr [49] }
def askB : List UInt8 := [50, 56, 48, 48, 0, 48, 0, 1, 0, 0, 0, 0, 48, 48, 48, 48, 48, 55, 50, 48, 50, 54, 48, 49, 48, 49, 49, 50, 48, 48, 48, 48, 48, 49, 49]
def askE : List El := [(11, [48, 48, 48, 48, 48, 55]), (12, nowB), (32, [49])]
/-- the same errors, of lists -/
def decEsL (t : List UInt8) (f : Int → List UInt8) (on : Nat) : List Int := [
  if ofMti (bstr t) ≠ 0 then 0 else 15,
  if (!(f 11 == []) && (!(f 12 == []) && !(f 32 == []))) = true then 0 else 19,
  if ((f 4 == []) == (f 49 == [])) = true then 0 else 19,
  if (!(f 22 == [48, 48, 48])) = true then 0 else 19,
  if timeB (f 12) = true then 0 else 14,
  if ((f 56).drop 6 == [] || timeB ((f 56).drop 6)) = true then 0 else 14,
  if (f 41 == [] || plainB (trimR (f 41)) 1 ((trimR (f 41)).length : Int)) = true then 0 else 14,
  if (f 42 == [] || plainB (trimR (f 42)) 1 ((trimR (f 42)).length : Int)) = true then 0 else 14,
  if (f 48 == [] || (decide ((f 48).length = 8) && unhexB (f 48))) = true then 0 else 14,
  if (f 2 == [] || rightB (f 2) 12 ((f 2).length : Int)) = true then 0 else 14,
  if (f 39 == [] || (wordsR (f 39)).isSome) = true then 0 else 20,
  if on ≤ 8 then 0 else 4,
  if tlvE (f 55) = 0 then 0 else 18,
  fitsR (rowOf (ofMti (bstr t))) (hasL [!(f 2 == []), !(f 49 == []), !(f 37 == []), !(trimR (f 42) == []), !(trimR (f 41) == []), !(f 38 == []), (numR (f 22) : Int) != 0, !(f 39 == []), !(f 25 == []), !((f 56).drop 6 == []), decide (0 < (tlvL (f 55)).length)]) (((f 49 == []) && ((numR (f 4) : Int) != 0)) || (((f 56).drop 6 == []) && ((numR ((f 56).take 6) : Int) != 0)))]
theorem decEs_L (t : List UInt8) (f : Int → List UInt8) (on : Nat) : decEs t f on = decEsL t f on := by
  have hd : ∀ l : List UInt8, (bstr l).data.toList = l := fun _ => rfl
  have ht : ∀ l : List UInt8, (trimA (bstr l)).toList = trimR l := fun l => by unfold trimA; rw [bstr_toList, hd]
  have hm : (decSh 14 t f none (tlvL (f 55)).length 0 none on 0).msg = ⟨ofMti (bstr t), (numR (f 11) : Int), bstr (f 12), bstr (f 32), bstr (f 2), bstr (f 49), (numR (f 4) : Int), bstr (f 37), trimA (bstr (f 42)), trimA (bstr (f 41)), bstr (f 38), (numR (f 22) : Int), bstr (f 39), bstr (f 25), (numR ((f 56).take 6) : Int), bstr ((f 56).drop 6), none, (tlvL (f 55)).length, 0, bstr (f 48), ⟨#[]⟩, none, 0, 0, none, on, 0⟩ := rfl
  unfold decEs decEsL fitsM
  rw [hm]
  unfold MsgC.there MsgC.bad exchB entryB sinceB bareB keyB panB actB wK
  simp only [bstr_toList, hd, ht, bstr_size]
theorem ask_dec : parI askB = (0, [50, 56, 48, 48], askE) := by decide +kernel
theorem ask_first : firstE (decEsL [50, 56, 48, 48] (fldT askE) 0) = 0 := by decide +kernel
theorem ask_decE : decFE askB = 0 := by
  unfold decFE
  rw [ask_dec]
  show (if (0 : Int) ≠ 0 then (0 : Int) else firstE (decEs [50, 56, 48, 48] (fldT askE) (othE askE).length)) = 0
  rw [if_neg (by decide), decEs_L]
  exact ask_first
theorem ask_fit : firstE (fitEs askM) = 0 := by
  unfold fitEs fitsM MsgC.there MsgC.bad
  simp only [s_list]
  decide +kernel
theorem ask_enc : firstE (encEs2 askM [] []) = 0 := by
  unfold encEs2 wexE wamE wenE worE padE keyB panB actB sinceB
  simp only [s_list]
  decide +kernel
theorem ask_els : encEsL askM [] [] = askE := by
  unfold encEsL
  rw [merge_nil_r]
  unfold optT encSh encT
  simp only [s_list]
  decide +kernel
theorem ask_pac : pacE [50, 56, 48, 48] askE = 0 ∧ pacR [50, 56, 48, 48] askE = askB := by decide +kernel
theorem ask_say : encFE askM [] [] = 0 ∧ encFR askM [] [] = askB := by
  have hm : encMti askM = [50, 56, 48, 48] := by decide +kernel
  have h : encFE askM [] [] = 0 := by
    unfold encFE
    rw [if_neg (by rw [ask_fit]; decide), if_neg (by rw [ask_enc]; decide), hm, ask_els, if_pos (.inl ask_pac.1)]
    exact ask_pac.1
  refine ⟨h, ?_⟩
  unfold encFR
  rw [if_pos h, hm, ask_els]
  exact ask_pac.2
theorem ask_hed : hedB (fldT askE) = true := by
  unfold hedB exchB
  simp only [bstr_toList]
  decide +kernel
end Go.Proofs.YthlgnmgjfgbffaaGreatDoor
/- Package fields: two messages held against each other. -/
namespace Go.Proofs.YthlgnmgjfgbffaaGreatDoor
open Go.RowKit
set_option maxHeartbeats 4000000
set_option linter.unusedVariables false
set_option maxRecDepth 20000

theorem plain_none (A B : Option Addr) (c d : Nat) (w : World) : Calls Tryz.prog 36 #[.slice A 0 c, .slice B 0 d] w fun e w' => e = .returned (.bool true) ∧ w = w' := by
  go_enter Tryz.func36, Tryz.ntmps36
  go_wp2
  refine wp_loop_rounds 1 ?_
  rw [rounds_succ]
  go_wp2
  go_ret
  exact ⟨rfl, rfl⟩
theorem sameMsg_any {m : MsgC} {tA2 eA2 oA2 : Option Addr} {tc2 ec2 oc2 : Nat} {tg : List TagL} {os : List El} {N M : Nat → Prop} (w : World) (he : m.en = 0) (t1 : RdI 2 TagI w N m.tA m.tn m.tc tg) (t2 : RdI 2 TagI w M tA2 m.tn tc2 tg) (o1 : RdI 2 TagI w N m.oA m.on m.oc os) (o2 : RdI 2 TagI w M oA2 m.on oc2 os) :
    Calls Tryz.prog 10 #[m.val, ({ m with tA := tA2, tc := tc2, eA := eA2, ec := ec2, oA := oA2, oc := oc2 } : MsgC).val] w fun e w' => e = .returned (.bool true) ∧ Fr No w w' := by
  have T := Lib.hid (fun u (hu : Fr No w u) => sameG_any m.tA tA2 m.tn m.tc tc2 tg N M u (t1.no tag_ok hu) (t2.no tag_ok hu))
  have O := Lib.hid (fun u (hu : Fr No w u) => sameE_any m.oA oA2 m.on m.oc oc2 os N M u (o1.no tag_ok hu) (o2.no tag_ok hu))
  have HE := Lib.hid he
  clear t1 t2 o1 o2 he
  go_enter Tryz.func10, Tryz.ntmps10
  have HF := Lib.hid (((Fr.refl No w).alloc (.cells m.cells.toArray 38)).alloc (.cells ({ m with tA := tA2, tc := tc2, eA := eA2, ec := ec2, oA := oA2, oc := oc2 } : MsgC).cells.toArray 38))
  have BA := Lib.hid ((Bk.new w 38 m.cells.toArray).no ((Fr.refl No _).alloc (.cells ({ m with tA := tA2, tc := tc2, eA := eA2, ec := ec2, oA := oA2, oc := oc2 } : MsgC).cells.toArray 38)))
  have BB := Lib.hid (Bk.new (w.alloc (.cells m.cells.toArray 38)) 38 ({ m with tA := tA2, tc := tc2, eA := eA2, ec := ec2, oA := oA2, oc := oc2 } : MsgC).cells.toArray)
  go_upto_region 1 with fail
  show Code.wp _ _ _ _ ((w.alloc (.cells m.cells.toArray 38)).alloc (.cells ({ m with tA := tA2, tc := tc2, eA := eA2, ec := ec2, oA := oA2, oc := oc2 } : MsgC).cells.toArray 38))
  have hsz : (w.alloc (.cells m.cells.toArray 38)).heap.size = w.heap.size + 1 := by simp
  rw [hsz] at BB
  clear hsz
  generalize (w.alloc (.cells m.cells.toArray 38)).alloc (.cells ({ m with tA := tA2, tc := tc2, eA := eA2, ec := ec2, oA := oA2, oc := oc2 } : MsgC).cells.toArray 38) = W at *
  obtain ⟨ga, hga⟩ : ∃ ga, w.heap.size = ga := ⟨_, rfl⟩
  rw [hga] at BA BB ⊢
  obtain ⟨gb, hgb⟩ : ∃ gb, ga + 1 = gb := ⟨_, rfl⟩
  rw [hgb] at BB ⊢
  clear hga hgb
  have a0 : W.cell? ⟨ga, 0, none⟩ = some (.int .i64 m.kind) := (BA.out.cell 0).trans rfl
  have a1 : W.cell? ⟨ga, 1, none⟩ = some (.int .i64 m.stan) := (BA.out.cell 1).trans rfl
  have a2 : W.cell? ⟨ga, 2, none⟩ = some (.string m.time) := (BA.out.cell 2).trans rfl
  have a3 : W.cell? ⟨ga, 3, none⟩ = some (.string m.acq) := (BA.out.cell 3).trans rfl
  have a4 : W.cell? ⟨ga, 4, none⟩ = some (.string m.pan) := (BA.out.cell 4).trans rfl
  have a5 : W.cell? ⟨ga, 5, none⟩ = some (.string m.cur) := (BA.out.cell 5).trans rfl
  have a6 : W.cell? ⟨ga, 6, none⟩ = some (.int .u64 m.amount) := (BA.out.cell 6).trans rfl
  have a7 : W.cell? ⟨ga, 7, none⟩ = some (.string m.rrn) := (BA.out.cell 7).trans rfl
  have a8 : W.cell? ⟨ga, 8, none⟩ = some (.string m.mer) := (BA.out.cell 8).trans rfl
  have a9 : W.cell? ⟨ga, 9, none⟩ = some (.string m.ter) := (BA.out.cell 9).trans rfl
  have a10 : W.cell? ⟨ga, 10, none⟩ = some (.string m.app) := (BA.out.cell 10).trans rfl
  have a11 : W.cell? ⟨ga, 11, none⟩ = some (.int .i64 m.entry) := (BA.out.cell 11).trans rfl
  have a12 : W.cell? ⟨ga, 12, none⟩ = some (.string m.act) := (BA.out.cell 12).trans rfl
  have a13 : W.cell? ⟨ga, 13, none⟩ = some (.string m.rea) := (BA.out.cell 13).trans rfl
  have a14 : W.cell? ⟨ga, 14, none⟩ = some (.int .i64 m.ostan) := (BA.out.cell 14).trans rfl
  have a15 : W.cell? ⟨ga, 15, none⟩ = some (.string m.otime) := (BA.out.cell 15).trans rfl
  have a16 : W.cell? ⟨ga, 16, none⟩ = some (.slice m.tA m.tn m.tc) := (BA.out.cell 16).trans rfl
  have a17 : W.cell? ⟨ga, 17, none⟩ = some (.string m.key) := (BA.out.cell 17).trans rfl
  have a18 : W.cell? ⟨ga, 18, none⟩ = some (.string m.note) := (BA.out.cell 18).trans rfl
  have a19 : W.cell? ⟨ga, 19, none⟩ = some (.slice m.eA 0 m.ec) := (BA.out.cell 19).trans (by rw [← HE.out]; rfl)
  have a20 : W.cell? ⟨ga, 20, none⟩ = some (.slice m.oA m.on m.oc) := (BA.out.cell 20).trans rfl
  have b0 : W.cell? ⟨gb, 0, none⟩ = some (.int .i64 m.kind) := (BB.out.cell 0).trans rfl
  have b1 : W.cell? ⟨gb, 1, none⟩ = some (.int .i64 m.stan) := (BB.out.cell 1).trans rfl
  have b2 : W.cell? ⟨gb, 2, none⟩ = some (.string m.time) := (BB.out.cell 2).trans rfl
  have b3 : W.cell? ⟨gb, 3, none⟩ = some (.string m.acq) := (BB.out.cell 3).trans rfl
  have b4 : W.cell? ⟨gb, 4, none⟩ = some (.string m.pan) := (BB.out.cell 4).trans rfl
  have b5 : W.cell? ⟨gb, 5, none⟩ = some (.string m.cur) := (BB.out.cell 5).trans rfl
  have b6 : W.cell? ⟨gb, 6, none⟩ = some (.int .u64 m.amount) := (BB.out.cell 6).trans rfl
  have b7 : W.cell? ⟨gb, 7, none⟩ = some (.string m.rrn) := (BB.out.cell 7).trans rfl
  have b8 : W.cell? ⟨gb, 8, none⟩ = some (.string m.mer) := (BB.out.cell 8).trans rfl
  have b9 : W.cell? ⟨gb, 9, none⟩ = some (.string m.ter) := (BB.out.cell 9).trans rfl
  have b10 : W.cell? ⟨gb, 10, none⟩ = some (.string m.app) := (BB.out.cell 10).trans rfl
  have b11 : W.cell? ⟨gb, 11, none⟩ = some (.int .i64 m.entry) := (BB.out.cell 11).trans rfl
  have b12 : W.cell? ⟨gb, 12, none⟩ = some (.string m.act) := (BB.out.cell 12).trans rfl
  have b13 : W.cell? ⟨gb, 13, none⟩ = some (.string m.rea) := (BB.out.cell 13).trans rfl
  have b14 : W.cell? ⟨gb, 14, none⟩ = some (.int .i64 m.ostan) := (BB.out.cell 14).trans rfl
  have b15 : W.cell? ⟨gb, 15, none⟩ = some (.string m.otime) := (BB.out.cell 15).trans rfl
  have b16 : W.cell? ⟨gb, 16, none⟩ = some (.slice tA2 m.tn tc2) := (BB.out.cell 16).trans rfl
  have b17 : W.cell? ⟨gb, 17, none⟩ = some (.string m.key) := (BB.out.cell 17).trans rfl
  have b18 : W.cell? ⟨gb, 18, none⟩ = some (.string m.note) := (BB.out.cell 18).trans rfl
  have b19 : W.cell? ⟨gb, 19, none⟩ = some (.slice eA2 0 ec2) := (BB.out.cell 19).trans (by rw [← HE.out]; rfl)
  have b20 : W.cell? ⟨gb, 20, none⟩ = some (.slice oA2 m.on oc2) := (BB.out.cell 20).trans rfl
  clear BA BB
  go_wp2_with (first
    | (go_at_call 34; refine (T.out _ HF.out).mono ?_; rintro e w1 ⟨rfl, f1⟩; have F1 := Lib.hid (HF.out.trans f1); have xa19 := f1.cell a19 (fun x => x); have xb19 := f1.cell b19 (fun x => x); have xa20 := f1.cell a20 (fun x => x); have xb20 := f1.cell b20 (fun x => x); clear f1)
    | (go_at_call 36; refine (plain_none _ _ _ _ _).mono ?_; rintro e w2 ⟨rfl, rfl⟩)
    | (go_at_call 37; refine (O.out _ F1.out).mono ?_; rintro e w3 ⟨rfl, f3⟩; have F3 := Lib.hid (F1.out.trans f3); clear f3))
  go_ret
  exact ⟨rfl, F3.out⟩
end Go.Proofs.YthlgnmgjfgbffaaGreatDoor
/- What shows that package fields does something. -/
namespace Go.Proofs.YthlgnmgjfgbffaaGreatDoor
open Go.RowKit
set_option maxHeartbeats 4000000
set_option linter.unusedVariables false
set_option maxRecDepth 20000

theorem ask_any (w : World) : Calls Tryz.prog 32 #[] w fun e w' => e = .returned askM.val ∧ Fr No w w' := by
  go_enter Tryz.func32, Tryz.ntmps32
  have HB := Lib.hid (Bk.new w 38 mz.cells.toArray)
  have HF := Lib.hid ((Fr.refl No w).alloc (.cells mz.cells.toArray 38))
  have HLT := Lib.hid HB.out.lt
  go_wp2_with (refine wpList_store_bk rfl 38 _ _ rfl w.heap.size rfl mz.cells askM.cells rfl HB.out rfl (msgSizeF _) (msg_oneF _) ?_; intro w2 b2 f2 s2; have B2 := Lib.hid b2; have F2 := Lib.hid f2; clear b2 f2)
  exact bodyPost_ret (v := askM.val) (results_bk (g := w.heap.size) (cs := askM.cells) Tryz.results32 rfl B2.out Tryz.underlying38 rfl (msgSizeF _)) rfl ⟨rfl, HF.out.trans_just F2.out (Nat.le_refl _)⟩
theorem ask_ok : MsgOk askM := ⟨by decide, by decide, by decide, by decide, by decide, by decide, by decide, by decide, by decide, by decide, by decide, by decide, by decide, by decide⟩
theorem ask_ls (w : World) : MsgLs w askM [] [] := ⟨RdI.nil_ _ _ _ _, RdI.nil_ _ _ _ _⟩
theorem ask_back (tA : Option Addr) (tc : Nat) (oA : Option Addr) (oc : Nat) : decC [50, 56, 48, 48] askE tA tc oA oc = { askM with tA := tA, tc := tc, oA := oA, oc := oc } := by kernel_rfl
theorem ask_hedS : (hedM (fldT askE)).stan = 7 := by
  unfold hedM
  rw [ask_hed, if_pos rfl]
  decide +kernel
/-- what Decode answers of it -/
theorem dec_ask {w w' : World} {e : Ending} (h : DecTo askB w e w') : ∃ X : MsgC, e = .returned (.tuple #[X.val, .int .i64 0]) ∧ Fr No w w' ∧ ∀ u, Fr No w' u → Calls Tryz.prog 10 #[X.val, askM.val] u fun e w' => e = .returned (.bool true) ∧ Fr No u w' := by
  obtain ⟨hf, ⟨h1, -⟩ | ⟨-, tA, tc, oA, oc, h2, h3, h4⟩⟩ := h
  · exact absurd ask_decE h1
  · rw [ask_dec] at h2 h3 h4
    refine ⟨{ askM with tA := tA, tc := tc, oA := oA, oc := oc }, ?_, hf, fun u hu => ?_⟩
    · rw [h2]
      dsimp only
      rw [ask_back]
    · exact sameMsg_any (m := { askM with tA := tA, tc := tc, oA := oA, oc := oc }) (tA2 := none) (tc2 := 0) (eA2 := none) (ec2 := 0) (oA2 := none) (oc2 := 0) (tg := []) (os := []) (N := fun i => i < w'.heap.size) (M := fun i => i < w'.heap.size) u rfl (h3.no tag_ok hu) (RdI.nil_ _ _ _ _) (h4.no tag_ok hu) (RdI.nil_ _ _ _ _)
set_option maxHeartbeats 8000000 in
theorem awake_fld (w : World) (hT : Tabs w) : Calls Tryz.prog 7 #[] w fun e w' => e = .returned (.bool true) ∧ Fr No w w' := by
  have A0 := Lib.hid (fun u => ask_any u)
  have HT := Lib.hid hT
  have HE := Lib.hid (fun u (hu : Fr No w u) => f_encode_any u ask_ok (ask_ls u) (hT.fr hu))
  unfold EncTo at HE
  rw [ask_say.1, ask_say.2] at HE
  have HD := Lib.hid (fun u A c (hu : Fr No w u) (hr : Rd u A askB.length c (u8s askB)) => (f_decode_any A c askB u hr (hT.fr hu)).mono (fun e w' h => dec_ask h))
  have HH := Lib.hid (fun u A c (hu : Fr No w u) (hr : Rd u A askB.length c (u8s askB)) => f_head_any A c askB u hr (hT.fr hu))
  unfold HedTo at HH
  rw [ask_dec] at HH
  dsimp only at HH
  rw [ask_hed] at HH
  have hS := ask_hedS
  generalize hedM (fldT askE) = Y at *
  have hbl : askB.length ≤ 100 := by decide
  generalize askB = AB at *
  have HS := Lib.hid hS
  clear hT hS
  go_enter Tryz.func7, Tryz.ntmps7
  go_upto_region 2 with (first
    | (go_at_call 32; refine (A0.out _).mono ?_; rintro e w1 ⟨rfl, f1⟩; have F1 := Lib.hid f1; clear f1)
    | (go_at_call 31; refine (HE.out _ F1.out).mono ?_; rintro e w2 ⟨v, rfl, ho2, f2⟩; obtain ⟨V, vc, rfl, hr2, -⟩ := ownM_rd ho2; have R2 := Lib.hid hr2; have F2 := Lib.hid (F1.out.trans f2); clear ho2 hr2 f2))
  go_upto_region 3 with (first
    | (go_at_call 6; refine (HD.out _ _ _ F2.out R2.out).mono ?_; rintro e w3 ⟨X, rfl, f3, hsm⟩; have F3 := Lib.hid (F2.out.trans f3); have SM := Lib.hid hsm; have R3 := Lib.hid (R2.out.no f3); clear f3 hsm)
    | (refine wpList_store_bk rfl 38 _ _ rfl w3.heap.size rfl mz.cells X.cells rfl (Bk.new w3 38 mz.cells.toArray) rfl (msgSizeF _) (msg_oneF _) ?_; intro w4 b4 f4 s4; have B4 := Lib.hid b4; have F34 := Lib.hid (((Fr.refl No w3).alloc (.cells mz.cells.toArray 38)).trans_just f4 (Nat.le_refl _)); clear b4 f4 s4))
  obtain ⟨g3, hg3⟩ : ∃ g3, w3.heap.size = g3 := ⟨_, rfl⟩
  rw [hg3] at B4 ⊢
  have F4 := Lib.hid (F3.out.trans F34.out)
  have R4 := Lib.hid (R3.out.no F34.out)
  clear hg3
  go_upto_region 4 with (first
    | (go_at_call 9; refine (HH.out _ _ _ F4.out R4.out).mono ?_; rintro e w5 ⟨f5, rfl⟩; have F5 := Lib.hid (F34.out.trans f5); have F5w := Lib.hid (F4.out.trans f5); have B5 := Lib.hid (B4.out.no f5); clear f5)
    | (refine wpList_store_bk rfl 38 _ _ rfl w5.heap.size rfl mz.cells Y.cells rfl (Bk.new w5 38 mz.cells.toArray) rfl (msgSizeF _) (msg_oneF _) ?_; intro w6 b6 f6 s6; have B6 := Lib.hid b6; have F56 := Lib.hid (((Fr.refl No w5).alloc (.cells mz.cells.toArray 38)).trans_just f6 (Nat.le_refl _)); clear b6 f6 s6))
  obtain ⟨g5, hg5⟩ : ∃ g5, w5.heap.size = g5 := ⟨_, rfl⟩
  rw [hg5] at B6 ⊢
  have G6 := Lib.hid (B5.out.no F56.out)
  have F6 := Lib.hid (F5.out.trans F56.out)
  have F6w := Lib.hid (F5w.out.trans F56.out)
  have HQ := Lib.hid (show ∀ w' : World, (∃ p : Regrown, w' = Go.Sort.grow (redrawn w6 p.d) p.os) → w'.rangeAt g3 0 X.cells from fun w' ⟨p, hp⟩ => by
    rw [hp]; exact (G6.out.no (Fr.of_below (below_regrown w6 p.d p.os))).range)
  have c1 : w6.cell? ⟨g5, 1, none⟩ = some (.int .i64 7) := (B6.out.cell 1).trans (by show some (Value.int .i64 Y.stan) = _; rw [HS.out])
  have d1 := fun x os => cell_regrown c1 x os
  clear hg5 c1
  refine wp_region_quiet_below (by kernel_rfl) (by kernel_rfl) ?_
  repeat (first
    | (refine quiet_load 38 _ rfl (by rfl) g3 (by rfl) X.cells _ HQ.out (Tryz.underlying38) rfl (msgSizeF X) ?_)
    | quiet_step ((first
      | (go_at_call 32; exact Calls.regrown_of (below_of (A0.out _)))
      | (go_at_call 10; exact Calls.regrown_of (below_of (SM.out _ (F6.out.trans (fr_regrown _ _ _))))))))
  refine wpQuiet_nil ?_
  intro w7 hw7r
  obtain ⟨⟨nr, osr⟩, hw7r⟩ := hw7r
  have F7 := Lib.hid (show Fr No w w7 by rw [hw7r]; exact F6w.out.trans (fr_regrown _ _ _))
  clear hw7r
  go_wp2
  go_ret
  exact ⟨rfl, F7.out⟩
end Go.Proofs.YthlgnmgjfgbffaaGreatDoor
