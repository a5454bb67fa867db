/- The texts FldSh, Dig, Dig2, SimTime, joined. -/
import Derived.Test.YthlgnmgjfgbffaaGreatDoorL02
import Derived.Test.YthlgnmgjfgbffaaGreatDoorL10
import Derived.Test.YthlgnmgjfgbffaaGreatDoorL06
import Derived.Test.YthlgnmgjfgbffaaGreatDoorL01
import Derived.Test.YthlgnmgjfgbffaaGreatDoorL07
/- Package fields: a sheet, as its cells have it; where texts stand. -/
namespace Go.Proofs.YthlgnmgjfgbffaaGreatDoor
open Go.RowKit
set_option linter.unusedVariables false

structure FSh where
  txt : Int → List UInt8
  kind : Int
  stan : Int
  amount : Int
  mer : ByteArray
  ter : ByteArray
  entry : Int
  ostan : Int
  otime : ByteArray
  note : ByteArray
  tA : Option Addr
  tn : Nat
  tc : Nat
  eA : Option Addr
  en : Nat
  ec : Nat
  oA : Option Addr
  on : Nat
  oc : Nat
def FSh.msg (s : FSh) : MsgC := ⟨s.kind, s.stan, bstr (s.txt 12), bstr (s.txt 32), bstr (s.txt 2), bstr (s.txt 49), s.amount, bstr (s.txt 37), s.mer, s.ter, bstr (s.txt 38), s.entry, bstr (s.txt 39), bstr (s.txt 25), s.ostan, s.otime, s.tA, s.tn, s.tc, bstr (s.txt 48), s.note, s.eA, s.en, s.ec, s.oA, s.on, s.oc⟩
def FSh.texts (s : FSh) : List Value := [.string (bstr (s.txt 11)), .string (bstr (s.txt 4)), .string (bstr (s.txt 22)), .string (bstr (s.txt 41)), .string (bstr (s.txt 42)), .string (bstr (s.txt 56)), .string (bstr (s.txt 55))]
def FSh.cells (s : FSh) : List Value := s.msg.cells ++ s.texts
/-- where each text stands: its element, its cell -/
def plL : List (Int × Nat) := [(2, 4), (4, 22), (11, 21), (12, 2), (22, 23), (25, 13), (32, 3), (37, 7), (38, 10), (39, 12), (41, 24), (42, 25), (48, 17), (49, 5), (55, 27), (56, 26)]
def plV (g : Nat) : List Value := [.int .i64 2, .pointer (some ⟨g, 4, none⟩), .int .i64 4, .pointer (some ⟨g, 22, none⟩), .int .i64 11, .pointer (some ⟨g, 21, none⟩), .int .i64 12, .pointer (some ⟨g, 2, none⟩), .int .i64 22, .pointer (some ⟨g, 23, none⟩), .int .i64 25, .pointer (some ⟨g, 13, none⟩), .int .i64 32, .pointer (some ⟨g, 3, none⟩), .int .i64 37, .pointer (some ⟨g, 7, none⟩), .int .i64 38, .pointer (some ⟨g, 10, none⟩), .int .i64 39, .pointer (some ⟨g, 12, none⟩), .int .i64 41, .pointer (some ⟨g, 24, none⟩), .int .i64 42, .pointer (some ⟨g, 25, none⟩), .int .i64 48, .pointer (some ⟨g, 17, none⟩), .int .i64 49, .pointer (some ⟨g, 5, none⟩), .int .i64 55, .pointer (some ⟨g, 27, none⟩), .int .i64 56, .pointer (some ⟨g, 26, none⟩)]
theorem pl_at (g k : Nat) (hk : k < 16) : ∃ (no : Int) (o : Nat), plL[k]? = some (no, o) ∧ (plV g)[k * 2]? = some (.int .i64 no) ∧ (plV g)[k * 2 + 1]? = some (.pointer (some ⟨g, o, none⟩)) ∧ o < 28 ∧ fldNos[k]? = some no ∧ -9223372036854775808 ≤ no ∧ no ≤ 9223372036854775807 := by
  have h : k = 0 ∨ k = 1 ∨ k = 2 ∨ k = 3 ∨ k = 4 ∨ k = 5 ∨ k = 6 ∨ k = 7 ∨ k = 8 ∨ k = 9 ∨ k = 10 ∨ k = 11 ∨ k = 12 ∨ k = 13 ∨ k = 14 ∨ k = 15 := by omega
  rcases h with rfl | rfl | rfl | rfl | rfl | rfl | rfl | rfl | rfl | rfl | rfl | rfl | rfl | rfl | rfl | rfl
  all_goals exact ⟨_, _, rfl, rfl, rfl, by decide, rfl, by decide, by decide⟩
/-- the texts' cells -/
theorem pl_text (s : FSh) (tl : List Value) (k : Nat) (no : Int) (o : Nat) (h : plL[k]? = some (no, o)) : (s.cells ++ tl)[o]? = some (.string (bstr (s.txt no))) := by
  have hk : k < 16 := (List.getElem?_eq_some_iff.1 h).1
  have h2 : k = 0 ∨ k = 1 ∨ k = 2 ∨ k = 3 ∨ k = 4 ∨ k = 5 ∨ k = 6 ∨ k = 7 ∨ k = 8 ∨ k = 9 ∨ k = 10 ∨ k = 11 ∨ k = 12 ∨ k = 13 ∨ k = 14 ∨ k = 15 := by omega
  rcases h2 with rfl | rfl | rfl | rfl | rfl | rfl | rfl | rfl | rfl | rfl | rfl | rfl | rfl | rfl | rfl | rfl
  all_goals
    injection h with h
    injection h with h1 h2
    subst h1 h2
    rfl
theorem cells_congr {s s' : FSh} (ht : ∀ n ∈ fldNos, s.txt n = s'.txt n) (h : s' = { s with txt := s'.txt }) : s'.cells = s.cells := by
  rw [h]
  unfold FSh.cells FSh.msg FSh.texts
  simp only [ht 2 (by decide), ht 4 (by decide), ht 11 (by decide), ht 12 (by decide), ht 22 (by decide), ht 25 (by decide), ht 32 (by decide), ht 37 (by decide), ht 38 (by decide), ht 39 (by decide), ht 41 (by decide), ht 42 (by decide), ht 48 (by decide), ht 49 (by decide), ht 55 (by decide), ht 56 (by decide)]
/-- a text that is laid by its element's number -/
def layC (n : Int) (v : Value) : List (Int × Nat) → List Value → List Value
  | [], cs => cs
  | (k, o) :: r, cs => layC n v r (if k = n then cs.set o v else cs)
def FSh.put (s : FSh) (n : Int) (d : List UInt8) : FSh := { s with txt := fun k => if k = n then d else s.txt k }
theorem lay_none (n : Int) (v : Value) : ∀ (l : List (Int × Nat)) (cs : List Value), (∀ p ∈ l, p.1 ≠ n) → layC n v l cs = cs
  | [], _, _ => rfl
  | (k, o) :: r, cs, h => by
    unfold layC
    rw [if_neg (h (k, o) (List.mem_cons_self ..))]
    exact lay_none n v r cs (fun p hp => h p (List.mem_cons_of_mem _ hp))
theorem pl_nos : plL.map (·.1) = fldNos := rfl
theorem lay_put (s : FSh) (tl : List Value) (n : Int) (d : List UInt8) : layC n (.string (bstr d)) plL (s.cells ++ tl) = (s.put n d).cells ++ tl := by
  by_cases hn : n ∈ fldNos
  · simp only [fldNos, List.mem_cons, List.not_mem_nil, or_false] at hn
    rcases hn with rfl | rfl | rfl | rfl | rfl | rfl | rfl | rfl | rfl | rfl | rfl | rfl | rfl | rfl | rfl | rfl
    all_goals rfl
  · rw [lay_none n _ plL _ (fun p hp e => hn (by rw [← pl_nos, ← e]; exact List.mem_map_of_mem hp))]
    have : (s.put n d).cells = s.cells := cells_congr (s := s) (s' := s.put n d) (fun k hk => (if_neg (fun e : k = n => hn (e ▸ hk))).symm) rfl
    rw [this]
/-- what the elements say -/
def fldT (es : List El) (n : Int) : List UInt8 := (fldL es n).getD []
def othE (es : List El) : List El := es.filter (fun a => spareP a.1)
def shOf (es : List El) (oA : Option Addr) (on oc : Nat) : FSh := ⟨fldT es, 0, 0, 0, ⟨#[]⟩, ⟨#[]⟩, 0, 0, ⟨#[]⟩, ⟨#[]⟩, none, 0, 0, none, 0, 0, oA, on, oc⟩
theorem fld_snoc {es : List El} {no : Int} {d : List UInt8} (h : no ∉ nosOf es) (k : Int) : fldT (es ++ [(no, d)]) k = if k = no then d else fldT es k := by
  unfold fldT fldL
  rw [List.find?_append]
  by_cases hk : k = no
  · subst hk
    have h0 : es.find? (fun a => a.1 == k) = none := by
      rw [List.find?_eq_none]
      intro a ha e
      exact h (by rw [show nosOf es = es.map (·.1) from rfl, ← beq_iff_eq.1 e]; exact List.mem_map_of_mem ha)
    rw [h0, if_pos rfl]
    simp
  · rw [if_neg hk]
    cases hf : es.find? (fun a => a.1 == k) with
    | some a => rfl
    | none =>
      have : (no == k) = false := by rw [beq_eq_false_iff_ne]; exact fun e => hk e.symm
      simp [this]
theorem shOf_text {es : List El} {no : Int} {d : List UInt8} (h : no ∉ nosOf es) (oA : Option Addr) (on oc : Nat) : (shOf es oA on oc).put no d = shOf (es ++ [(no, d)]) oA on oc := by
  unfold FSh.put shOf
  congr 1
  funext k
  exact (fld_snoc h k).symm
theorem shOf_spare {es : List El} {no : Int} {d : List UInt8} (h : no ∉ nosOf es) (hs : spareP no = true) (oA : Option Addr) (on oc : Nat) : (shOf (es ++ [(no, d)]) oA on oc).cells = (shOf es oA on oc).cells := by
  refine cells_congr (fun n hn => ?_) rfl
  show fldT es n = fldT (es ++ [(no, d)]) n
  rw [fld_snoc h n, if_neg]
  intro e
  subst e
  have : ∀ n ∈ fldNos, spareP n = false := by decide +kernel
  rw [this n hn] at hs
  cases hs
theorem oth_text {es : List El} {no : Int} {d : List UInt8} (h : spareP no = false) : othE (es ++ [(no, d)]) = othE es := by
  unfold othE
  rw [List.filter_append]
  simp [h]
theorem oth_spare {es : List El} {no : Int} {d : List UInt8} (h : spareP no = true) : othE (es ++ [(no, d)]) = othE es ++ [(no, d)] := by
  unfold othE
  rw [List.filter_append]
  simp [h]

/-! ### errors, one behind the other -/
def firstE (l : List Int) : Int := (l.find? (· != 0)).getD 0
theorem firstE_here : ∀ (l : List Int) (k : Nat) (e : Int), (∀ j, j < k → l[j]? = some 0) → l[k]? = some e → e ≠ 0 → firstE l = e
  | [], k, e, _, h, _ => by cases h
  | a :: r, 0, e, _, h, he => by
    injection h with h
    subst h
    unfold firstE
    rw [List.find?_cons_of_pos (by rw [bne_iff_ne]; exact he)]
    rfl
  | a :: r, k + 1, e, h0, h, he => by
    have h1 := h0 0 (by omega)
    injection h1 with h1
    subst h1
    have := firstE_here r k e (fun j hj => h0 (j + 1) (by omega)) h he
    unfold firstE at this ⊢
    rw [List.find?_cons_of_neg (by decide)]
    exact this
theorem firstE_none (l : List Int) (h : ∀ j, j < l.length → l[j]? = some 0) : firstE l = 0 := by
  have : l.find? (· != 0) = none := by
    rw [List.find?_eq_none]
    intro a ha e
    obtain ⟨j, hj, rfl⟩ := List.getElem_of_mem ha
    have := h j hj
    rw [List.getElem?_eq_getElem hj] at this
    injection this with this
    rw [this] at e
    cases e
  unfold firstE
  rw [this]
  rfl
end Go.Proofs.YthlgnmgjfgbffaaGreatDoor
/- What package digits does with texts, numbers, halves of bytes and signs: contracts of its calls. -/
namespace Go.Proofs.YthlgnmgjfgbffaaGreatDoor
open Go.RowKit
set_option maxHeartbeats 400000
set_option linter.unusedVariables false
set_option maxRecDepth 20000

theorem digit_any (c : UInt8) (w : World) : Calls Tryz.prog 96 #[.int .u8 (c.toNat : Int)] w fun e w' => e = .returned (.bool (isD c)) ∧ w = w' := by
  go_enter Tryz.func96, Tryz.ntmps96
  go_wp2
  all_goals
    go_ret
    refine ⟨ret_bool ?_, rfl⟩
    unfold isD
    rw [Bool.eq_iff_iff]
    simp
    omega

theorem hex_any (c : UInt8) (w : World) : Calls Tryz.prog 94 #[.int .u8 (c.toNat : Int)] w fun e w' => e = .returned (.bool (isH c)) ∧ w = w' := by
  go_enter Tryz.func94, Tryz.ntmps94
  go_wp2_with (go_at_call 96; refine (digit_any _ _).mono ?_; rintro e w' ⟨rfl, rfl⟩)
  all_goals
    go_ret
    refine ⟨ret_bool ?_, rfl⟩
    unfold isH
    rw [Bool.eq_iff_iff]
    simp_all
    try omega

theorem half_any (c : UInt8) (w : World) : Calls Tryz.prog 133 #[.int .u8 (c.toNat : Int)] w fun e w' => e = .returned (.int .u8 ((half c).toNat : Int)) ∧ w = w' := by
  have h0 := c.toNat_lt
  by_cases hd : isD c = true
  · have hh := isD_true.1 hd
    have hv := half_digit hd
    have HV := Lib.hid hv
    clear hv
    go_enter Tryz.func133, Tryz.ntmps133
    go_wp2_with (go_at_call 96; refine (digit_any _ _).mono ?_; rintro e w' ⟨rfl, rfl⟩)
    go_ret
    exact ⟨ret_u8 (by rw [HV.out]; omega), rfl⟩
  · have hd : isD c = false := by simpa using hd
    have hv : ((half c).toNat : Int) = ((c.toNat : Int) - 65 + 10) % 256 := by
      unfold half
      rw [if_neg (by simp [hd])]
      simp only [UInt8.toNat_add, UInt8.toNat_sub]
      simp
      omega
    have HV := Lib.hid hv
    clear hv
    go_enter Tryz.func133, Tryz.ntmps133
    go_wp2_with (go_at_call 96; refine (digit_any _ _).mono ?_; rintro e w' ⟨rfl, rfl⟩)
    go_ret
    refine ⟨ret_u8 ?_, rfl⟩
    rw [HV.out]
    try omega

theorem every_any (f : FuncId) (t : UInt8 → Bool) (ht : Tests f t) (s : ByteArray) (w : World) (hs : s.size ≤ maxLen) :
    Calls Tryz.prog 93 #[.string s, .func (.func f) #[] #[]] w fun e w' => e = .returned (.bool (allB s.data.toList t)) ∧ w = w' := by
  unfold maxLen at hs
  go_enter Tryz.func93, Tryz.ntmps93
  go_wp2
  go_loop [8] (fun i => ∃ k : Nat, k ≤ s.size ∧ i = .int .i64 (k : Int) ∧ (s.data.toList.take k).all t = true) (fun i => s.size - (intOf i).toNat)
  case atStart => exact ⟨0, Nat.zero_le _, rfl, by simp⟩
  case round =>
    obtain ⟨k, hk, rfl, hall⟩ := hrel
    have HA := Lib.hid hall
    clear hall
    have h63 : (k : Int) + 1 ≤ 9223372036854775807 ∨ k = s.size := by omega
    by_cases hlt : k < s.size
    · have hts := take_snoc s k hlt
      have HT := Lib.hid hts
      clear hts
      have htc : ∀ w : World, Calls Tryz.prog f #[.int .u8 (s[k].toNat : Int)] w fun e w' => e = .returned (.bool (t s[k])) ∧ w = w' := fun w => ht.tells s[k] w
      have hen := ht.enters
      have HC := Lib.hid htc
      clear htc
      cases hb : t s[k] with
      | true =>
        have HB := Lib.hid hb
        clear hb
        go_wp2_with (refine (HC.out _).mono ?_; rw [HB.out]; rintro e w' ⟨rfl, rfl⟩)
        go_round
        case rel => exact ⟨k + 1, by omega, by go_num, by rw [HT.out, List.all_append, HA.out]; simp [HB.out]⟩
        case measure => simp [intOf]; omega
      | false =>
        have HB := Lib.hid hb
        clear hb
        go_wp2_with (refine (HC.out _).mono ?_; rw [HB.out]; rintro e w' ⟨rfl, rfl⟩)
        go_ret
        refine ⟨ret_bool ?_, rfl⟩
        symm
        unfold allB
        rw [← Bool.not_eq_true, List.all_eq_true]
        intro hx
        have := hx s[k] (by rw [at_data s k hlt]; exact List.getElem_mem _)
        rw [HB.out] at this
        cases this
    · obtain rfl : k = s.size := by omega
      go_wp2
      go_ret
      refine ⟨ret_bool ?_, rfl⟩
      have := HA.out
      rw [List.take_of_length_le (by simp)] at this
      exact this.symm

theorem tests_digit : Tests 96 isD := ⟨fun _ _ => by kernel_rfl, fun c w => digit_any c w⟩
theorem tests_hex : Tests 94 isH := ⟨fun _ _ => by kernel_rfl, fun c w => hex_any c w⟩

theorem right_any (s : ByteArray) (low top : Int) (w : World) (hs : s.size ≤ maxLen) :
    Calls Tryz.prog 55 #[.string s, .int .i64 low, .int .i64 top] w fun e w' => e = .returned (.bool (rightB s.data.toList low top)) ∧ w = w' := by
  have hl : s.data.toList.length = s.size := by simp
  by_cases h1 : low ≤ (s.size : Int)
  · by_cases h2 : (s.size : Int) ≤ top
    · have e : rightB s.data.toList low top = allB s.data.toList isD := by simp [rightB, allB, hl, h1, h2]
      have E := Lib.hid e
      clear e hl
      go_enter Tryz.func55, Tryz.ntmps55
      go_wp2_with (go_at_call 93; refine (every_any _ _ tests_digit _ _ hs).mono ?_; rintro e w' ⟨rfl, rfl⟩)
      go_ret
      exact ⟨ret_bool (by rw [E.out]), rfl⟩
    · have e : rightB s.data.toList low top = false := by simp [rightB, hl, h1, h2]
      have E := Lib.hid e
      clear e hl
      go_enter Tryz.func55, Tryz.ntmps55
      go_wp2
      go_ret
      exact ⟨ret_bool (by rw [E.out]), rfl⟩
  · have e : rightB s.data.toList low top = false := by simp [rightB, hl, h1]
    have E := Lib.hid e
    clear e hl
    go_enter Tryz.func55, Tryz.ntmps55
    go_wp2
    go_ret
    exact ⟨ret_bool (by rw [E.out]), rfl⟩
end Go.Proofs.YthlgnmgjfgbffaaGreatDoor
/- What package digits makes of texts: a number, bytes of two signs each, signs of bytes: contracts of its calls. -/
namespace Go.Proofs.YthlgnmgjfgbffaaGreatDoor
open Go.RowKit
set_option maxHeartbeats 400000
set_option linter.unusedVariables false
set_option maxRecDepth 20000

theorem number_any (s : ByteArray) (w : World) (hs : s.size ≤ maxLen) :
    Calls Tryz.prog 88 #[.string s] w fun e w' => e = .returned (.tuple #[.int .u64 (numR s.data.toList : Int), .int .i64 (numE s.data.toList)]) ∧ w = w' := by
  cases hr : rightB s.data.toList 1 18 with
  | false =>
    have e1 : numR s.data.toList = 0 := by simp [numR, hr]
    have e2 : numE s.data.toList = 5 := by simp [numE, hr]
    have E1 := Lib.hid e1
    have E2 := Lib.hid e2
    have HR := Lib.hid hr
    clear e1 e2 hr
    go_enter Tryz.func88, Tryz.ntmps88
    go_wp2_with (go_at_call 55; refine (right_any _ _ _ _ hs).mono ?_; rw [HR.out]; rintro e w' ⟨rfl, rfl⟩)
    go_ret2
    exact ⟨by rw [E1.out, E2.out]; rfl, rfl⟩
  | true =>
    have e1 : numR s.data.toList = numV s.data.toList := by simp [numR, hr]
    have e2 : numE s.data.toList = 0 := by simp [numE, hr]
    obtain ⟨h1, h2, h3⟩ := rightB_len hr
    have hsz : s.size ≤ 18 := by simp at h2; omega
    have E1 := Lib.hid e1
    have E2 := Lib.hid e2
    have HR := Lib.hid hr
    have HD := Lib.hid h3
    clear e1 e2 hr h1 h2 h3
    go_enter Tryz.func88, Tryz.ntmps88
    go_wp2_with (go_at_call 55; refine (right_any _ _ _ _ hs).mono ?_; rw [HR.out]; rintro e w' ⟨rfl, rfl⟩)
    go_loop [4, 11] (fun v i => ∃ k : Nat, k ≤ s.size ∧ i = .int .i64 (k : Int) ∧ v = .int .u64 (numV (s.data.toList.take k) : Int)) (fun _ i => s.size - (intOf i).toNat)
    case atStart => exact ⟨0, Nat.zero_le _, rfl, rfl⟩
    case round =>
      obtain ⟨k, hk, rfl, rfl⟩ := hrel
      by_cases hlt : k < s.size
      · have hts := take_snoc s k hlt
        have hn := numV_snoc (s.data.toList.take k) s[k]
        rw [← hts] at hn
        have hb := numV_le (dig_take HD.out k)
        have hb2 := pow_le_18 (k := k) (by omega)
        have hl : (s.data.toList.take k).length = k := by simp; omega
        rw [hl] at hb
        have hb3 : numV (s.data.toList.take k) ≤ 100000000000000000 := by omega
        have hh : (half s[k]).toNat < 256 := UInt8.toNat_lt _
        have HN := Lib.hid hn
        clear hn hts hb hb2 hl
        go_wp2_with (go_at_call 133; refine (half_any _ _).mono ?_; rintro e w' ⟨rfl, rfl⟩)
        go_round
        case rel => exact ⟨k + 1, by omega, by go_num, by rw [HN.out]; go_num⟩
        case measure => simp [intOf]; omega
      · obtain rfl : k = s.size := by omega
        go_wp2
        go_ret2
        exact ⟨by rw [E1.out, E2.out, List.take_of_length_le (by simp)]; rfl, rfl⟩

/-- as many bytes as there are pairs: the first k are those of the text, the others 0 -/
def pairRow (l : List UInt8) (n k : Nat) : List UInt8 := pairL (l.take (2 * k)) ++ List.replicate (n - k) 0
theorem pairRow_set (s : ByteArray) (n k : Nat) (hn : n = s.size / 2) (hk : k < n) (h1 : 2 * k < s.size) (h2 : 2 * k + 1 < s.size) :
    (u8s (pairRow s.data.toList n k)).set k (.int .u8 ((pr s[2 * k] s[2 * k + 1]).toNat : Int)) = u8s (pairRow s.data.toList n (k + 1)) := by
  have hp : (pairL (s.data.toList.take (2 * k))).length = k := by rw [pairL_length]; simp; omega
  unfold pairRow
  rw [pairL_snoc k s.data.toList s[2 * k] s[2 * k + 1] (List.getElem?_eq_getElem (by simpa using h1)) (List.getElem?_eq_getElem (by simpa using h2))]
  obtain ⟨m, hm⟩ : ∃ m, n - k = m + 1 := ⟨n - k - 1, by omega⟩
  rw [hm, show n - (k + 1) = m from by omega, List.replicate_succ]
  simp only [u8s, List.map_append, List.map_cons, List.map_nil, List.append_assoc]
  rw [List.set_append_right _ _ (by simp [hp])]
  simp [hp]

theorem pairL_even : ∀ l m : List UInt8, m.length ≤ 1 → l.length % 2 = 0 → pairL (l ++ m) = pairL l
  | [], [], _, _ => rfl
  | [], [x], _, _ => rfl
  | [], _ :: _ :: _, h, _ => by simp at h
  | [x], _, _, h => by simp at h
  | x :: y :: r, m, h, h2 => by
    simp only [List.cons_append, pairL, pairL_even r m h (by simp at h2; omega)]
theorem pairL_all (s : ByteArray) (n : Nat) (hn : n = s.size / 2) : pairL (s.data.toList.take (2 * n)) = pairL s.data.toList := by
  have h := pairL_even (s.data.toList.take (2 * n)) (s.data.toList.drop (2 * n)) (by simp; omega) (by simp; omega)
  rw [List.take_append_drop] at h
  exact h.symm
theorem pairRow_length (s : ByteArray) (n k : Nat) (hn : n = s.size / 2) (hk : k ≤ n) : (pairRow s.data.toList n k).length = n := by
  unfold pairRow
  rw [List.length_append, pairL_length]
  simp
  omega

theorem half_still (c : UInt8) (w : World) : Calls Tryz.prog 133 #[.int .u8 (c.toNat : Int)] w fun e w' => e = .returned (.int .u8 ((half c).toNat : Int)) ∧ w' = w := (half_any c w).mono fun _ _ h => ⟨h.1, h.2.symm⟩

set_option maxRecDepth 4000 in
theorem pairs_any (s : ByteArray) (w : World) (hs : s.size ≤ 140737488355328) :
    Calls Tryz.prog 95 #[.string s] w fun e w' => ∃ v, e = .returned v ∧ w'.ownsRow w.heap.size 5 1 v (s.size / 2) (u8s (pairL s.data.toList)) ∧ Fr No w w' := by
  obtain ⟨n, hn⟩ : ∃ n, n = s.size / 2 := ⟨_, rfl⟩
  rw [← hn]
  have hn2 : 2 * n ≤ s.size := by omega
  have hn3 : s.size < 2 * n + 2 := by omega
  have HN := Lib.hid hn
  go_enter Tryz.func95, Tryz.ntmps95
  go_wp2_with (at_make; go_must (refine mk8 w rfl (.tmp 7) (.tmp 7) rfl .i64 .i64 _ _ n n rfl rfl (by omega) (by omega) (by omega) (by omega) ?_); intro w1 hb1 hf1 hs1)
  clear hn
  generalize hg : w.heap.size = g at *
  go_loopw [11] (fun i wr => ∃ k : Nat, k ≤ n ∧ i = .int .i64 (k : Int) ∧ Bk wr g 5 (u8s (pairRow s.data.toList n k)) ∧ Fr No w wr) (fun i _ => n - (intOf i).toNat)
  case atStart => exact ⟨0, Nat.zero_le _, rfl, by simpa [pairRow, pairL] using hb1, hf1⟩
  case round =>
    obtain ⟨k, hk, rfl, hb, hf⟩ := hrel
    rcases Nat.lt_or_ge k n with hlt | hge
    · go_wp2
      have h2 : 2 * k < s.size := by omega
      have h3 : 2 * k + 1 < s.size := by omega
      refine wp_region_reads 16 (by kernel_rfl) (by kernel_rfl) ?_
      intro w4 hd
      simp only [List.take_succ_cons, List.take_zero, List.drop_succ_cons, List.drop_zero]
      have e1 : IntKind.i64.wrap (2 * (k : Int)) = 2 * (k : Int) := IntWalk.i64_in _ ⟨by omega, by omega⟩
      have e2 : (2 * (k : Int)).toNat = 2 * k := by omega
      have e3 : IntKind.i64.wrap (2 * (k : Int) + 1) = 2 * (k : Int) + 1 := IntWalk.i64_in _ ⟨by omega, by omega⟩
      have e4 : (2 * (k : Int) + 1).toNat = 2 * k + 1 := by omega
      have e5 : 2 * (k : Int) < (s.size : Int) := by omega
      have e6 : 2 * (k : Int) + 1 < (s.size : Int) := by omega
      have e7 : 0 ≤ 2 * (k : Int) := by omega
      have e8 : 0 ≤ 2 * (k : Int) + 1 := by omega
      repeat still_step
      still_call (half_still _ _)
      repeat still_step
      still_call (half_still _ _)
      repeat still_step
      have E1 := Lib.hid e1; have E2 := Lib.hid e2; have E3 := Lib.hid e3; have E4 := Lib.hid e4
      try clear e1
      try clear e2
      try clear e3
      try clear e4
      refine wpStill_nil ?_
      have hb4 := hb.no hd.fr
      have hf4 := hf.dr hd
      have hor : bits BinOp.or IntKind.u8 (↑(half s[2 * k]).toNat * 16 % 256) ↑(half s[2 * k + 1]).toNat = ((pr s[2 * k] s[2 * k + 1]).toNat : Int) := by
        rw [← wrap_u8, shl4_u8, or_u8]
        rfl
      have hps := pairRow_set s n k HN.out hlt h2 h3
      have HO := Lib.hid hor
      have HP := Lib.hid hps
      obtain ⟨u, hu⟩ : ∃ u, (u8s (pairRow s.data.toList n k))[k]? = some u := ⟨_, List.getElem?_eq_getElem (by rw [u8s_length, pairRow_length s n k HN.out hk]; exact hlt)⟩
      have hc : w4.cell? ⟨g, k, none⟩ = some u := by rw [hb4.cell]; exact hu
      have hfz := hb4.frozen k
      clear hor hps hu hd hb hf
      go_wp2
      go_roundw
      case rel => exact ⟨k + 1, by omega, by go_num, by rw [HO.out, ← HP.out]; exact hb4.set_ _ _, hf4.setCell (.inr (by rw [hg]; exact Nat.le_refl _)) _⟩
      case measure => simp [intOf]; omega
    · obtain rfl : k = n := by omega
      have hlen : (pairRow s.data.toList k k) = pairL s.data.toList := by
        unfold pairRow
        rw [Nat.sub_self, List.replicate_zero, List.append_nil]
        rw [pairL_all s k HN.out]
      have HL := Lib.hid hlen
      clear hlen
      have ho := hb.own (base := g) (n := k) (cap := k) (Nat.le_refl _) (Nat.le_refl _) (by simp only [maxLen]; omega) (by rw [u8s_length, pairRow_length s k k HN.out (Nat.le_refl _)])
      rw [List.take_of_length_le (by rw [u8s_length, pairRow_length s k k HN.out (Nat.le_refl _)]; exact Nat.le_refl _), HL.out] at ho
      have hk2 : s.size / 2 = k := HN.out.symm
      have HK := Lib.hid hk2
      clear hk2
      go_wp2
      go_ret
      exact ⟨_, rfl, by rw [HK.out, hg]; exact ho, hf⟩

theorem nought_data (s : ByteArray) : (({ data := #[48] } : ByteArray) ++ s).data.toList = 48 :: s.data.toList := by simp
theorem nought_size (s : ByteArray) : (({ data := #[48] } : ByteArray) ++ s).size = s.size + 1 := by
  rw [ByteArray.size_append]
  exact Nat.add_comm _ _

/-- what Bcd answers -/
def bcdR (l : List UInt8) : List UInt8 := if rightB l 0 100 then pairL (evenL l) else []
def bcdE (l : List UInt8) : Int := if rightB l 0 100 then 0 else 5

/-- what UnHex answers -/
def unhexB (l : List UInt8) : Bool := decide (l.length % 2 = 0) && l.all isH
def unhexR (l : List UInt8) : List UInt8 := if unhexB l then pairL l else []
def unhexE (l : List UInt8) : Int := if unhexB l then 0 else 5

theorem unhex_any (s : ByteArray) (w : World) (hs : s.size ≤ 140737488355328) :
    Calls Tryz.prog 54 #[.string s] w fun e w' => ∃ v, e = .returned (.tuple #[v, .int .i64 (unhexE s.data.toList)]) ∧ w'.ownsRow w.heap.size 5 1 v (unhexR s.data.toList).length (u8s (unhexR s.data.toList)) ∧ Fr No w w' := by
  have hm : s.size ≤ maxLen := by simp only [maxLen]; omega
  rcases Nat.mod_two_eq_zero_or_one s.size with hodd | hodd
  · have hodd2 : ((s.size : Int) % 2 == 1) = false := by simp; omega
    cases hr : s.data.toList.all isH with
    | false =>
      have hb : unhexB s.data.toList = false := by unfold unhexB; rw [hr]; simp
      have e1 : unhexR s.data.toList = [] := by simp [unhexR, hb]
      have e2 : unhexE s.data.toList = 5 := by simp [unhexE, hb]
      rw [e1, e2]
      have HR : Hid (allB s.data.toList isH = false) := Lib.hid hr
      clear e1 e2 hr hb hodd
      go_enter Tryz.func54, Tryz.ntmps54
      go_wp2_with (go_at_call 93; refine (every_any _ _ tests_hex _ _ hm).mono ?_; rw [HR.out]; rintro e w' ⟨rfl, rfl⟩)
      go_ret2
      exact ⟨_, rfl, World.ownsRow_nil _ _ _ _, Fr.refl _ _⟩
    | true =>
      have hb : unhexB s.data.toList = true := by unfold unhexB; rw [hr]; simp [hodd]
      have e1 : unhexR s.data.toList = pairL s.data.toList := by simp [unhexR, hb]
      have e2 : unhexE s.data.toList = 0 := by simp [unhexE, hb]
      have hlen : (pairL s.data.toList).length = s.size / 2 := by rw [pairL_length]; simp
      rw [e1, e2, hlen]
      have HR : Hid (allB s.data.toList isH = true) := Lib.hid hr
      clear e1 e2 hr hb hlen hodd
      go_enter Tryz.func54, Tryz.ntmps54
      go_wp2_with (first
        | (go_at_call 93; refine (every_any _ _ tests_hex _ _ hm).mono ?_; rw [HR.out]; rintro e w' ⟨rfl, rfl⟩)
        | (go_at_call 95; refine (pairs_any _ _ hs).mono ?_; rintro e w1 ⟨v, rfl, ho, hf⟩))
      go_ret2
      exact ⟨v, rfl, ho, hf⟩
  · have hodd2 : ((s.size : Int) % 2 == 1) = true := by simp; omega
    have hb : unhexB s.data.toList = false := by unfold unhexB; simp [hodd]
    have e1 : unhexR s.data.toList = [] := by simp [unhexR, hb]
    have e2 : unhexE s.data.toList = 5 := by simp [unhexE, hb]
    rw [e1, e2]
    clear e1 e2 hb hodd
    go_enter Tryz.func54, Tryz.ntmps54
    go_wp2
    go_ret2
    exact ⟨_, rfl, World.ownsRow_nil _ _ _ _, Fr.refl _ _⟩
end Go.Proofs.YthlgnmgjfgbffaaGreatDoor
/- Package simple's times: contracts of its calls. -/
namespace Go.Proofs.YthlgnmgjfgbffaaGreatDoor
open Go.RowKit
set_option maxHeartbeats 400000
set_option linter.unusedVariables false

theorem s_leaps_any (y : Nat) (w : World) : Calls Tryz.prog 174 #[.int .u64 (y : Int)] w fun e w' => e = .returned (.bool (leapB y)) ∧ w = w' := by
  have h4 : ((y : Int) % 400 == 0) = decide (y % 400 = 0) := by rw [Bool.eq_iff_iff]; simp; omega
  have h5 : ((y : Int) % 4 == 0) = decide (y % 4 = 0) := by rw [Bool.eq_iff_iff]; simp; omega
  have H4 := Lib.hid h4; have H5 := Lib.hid h5
  clear h4 h5
  unfold leapB
  by_cases hc : y % 100 = 0
  · rw [if_pos hc]
    have h1 : (y : Int) % 100 = 0 := by omega
    go_enter Tryz.func174, Tryz.ntmps174
    go_wp2
    go_ret
    exact ⟨ret_bool H4.out, rfl⟩
  · rw [if_neg hc]
    have h1 : ¬ (y : Int) % 100 = 0 := by omega
    go_enter Tryz.func174, Tryz.ntmps174
    go_wp2
    go_ret
    exact ⟨ret_bool H5.out, rfl⟩
theorem s_days_any (y m : Nat) (w : World) : Calls Tryz.prog 134 #[.int .u64 (y : Int), .int .u64 (m : Int)] w fun e w' => e = .returned (.int .u64 (daysN y m : Int)) ∧ w = w' := by
  cases hl : leapB y with
  | true =>
    have hf : daysN y m = if m = 4 ∨ m = 6 ∨ m = 9 ∨ m = 11 then 30 else if m = 2 then 29 else 31 := by unfold daysN; rw [hl]; rfl
    have HF := Lib.hid hf; have HL := Lib.hid hl
    clear hf hl
    go_enter Tryz.func134, Tryz.ntmps134
    go_wp2_with (go_at_call 174; refine (s_leaps_any _ _).mono ?_; rw [HL.out]; rintro e w' ⟨rfl, rfl⟩)
    all_goals
      go_ret
      refine ⟨?_, rfl⟩
      rw [HF.out]
      repeat' split
      all_goals (first | rfl | (exfalso; simp_all; done) | (exfalso; simp at *; omega))
  | false =>
    have hf : daysN y m = if m = 4 ∨ m = 6 ∨ m = 9 ∨ m = 11 then 30 else if m = 2 then 28 else 31 := by unfold daysN; rw [hl]; rfl
    have HF := Lib.hid hf; have HL := Lib.hid hl
    clear hf hl
    go_enter Tryz.func134, Tryz.ntmps134
    go_wp2_with (go_at_call 174; refine (s_leaps_any _ _).mono ?_; rw [HL.out]; rintro e w' ⟨rfl, rfl⟩)
    all_goals
      go_ret
      refine ⟨?_, rfl⟩
      rw [HF.out]
      repeat' split
      all_goals (first | rfl | (exfalso; simp_all; done) | (exfalso; simp at *; omega))
theorem s_dated_any (y m d : Nat) (w : World) : Calls Tryz.prog 90 #[.int .u64 (y : Int), .int .u64 (m : Int), .int .u64 (d : Int)] w fun e w' => e = .returned (.bool (datedB y m d)) ∧ w = w' := by
  obtain ⟨D, hD⟩ : ∃ D, daysN y m = D := ⟨_, rfl⟩
  unfold datedB
  rw [hD]
  have HD := Lib.hid hD
  clear hD
  go_enter Tryz.func90, Tryz.ntmps90
  go_wp2_with (go_at_call 134; refine (s_days_any _ _ _).mono ?_; rw [HD.out]; rintro e w' ⟨rfl, rfl⟩)
  all_goals
    go_ret
    refine ⟨ret_bool ?_, rfl⟩
    first
      | (symm; exact decide_eq_false (by omega))
      | (symm; exact decide_eq_true (by omega))
      | (rw [Bool.eq_iff_iff]; simp; omega)
/-- the number of digits that are there -/
theorem s_part_any (s : ByteArray) (l : List UInt8) (hl : s.data.toList = l) (hd : l.all isD = true) (h1 : 1 ≤ l.length) (h2 : l.length ≤ 18) (w : World) :
    Calls Tryz.prog 89 #[.string s] w fun e w' => e = .returned (.int .u64 (numV l : Int)) ∧ w = w' := by
  have hs : s.size ≤ maxLen := by have := s_size s; rw [hl] at this; unfold maxLen; omega
  have hc := fun u => number_any s u hs
  obtain ⟨n1, n2⟩ := num_digits hd h1 h2
  rw [hl, n1, n2] at hc
  have HC := Lib.hid hc
  clear hc n1 n2 hl hd h1 h2 hs
  go_enter Tryz.func89, Tryz.ntmps89
  go_wp2_with (go_at_call 88; refine (HC.out _).mono ?_; rintro e w' ⟨rfl, rfl⟩)
  go_ret
  exact ⟨rfl, rfl⟩

theorem ext_cutN (s : ByteArray) (i j : Nat) : (s.extract i j).data.toList = cutN s.data.toList i j := by rw [s_ext]; rfl
theorem ext_cutN_end (s : ByteArray) (i j : Nat) (h : s.size = j) : (s.extract i s.size).data.toList = cutN s.data.toList i j := by rw [h]; exact ext_cutN s i j

set_option maxHeartbeats 1000000 in
theorem s_time_any (s : ByteArray) (w : World) (hs : s.size ≤ maxLen) :
    Calls Tryz.prog 51 #[.string s] w fun e w' => e = .returned (.bool (timeB s.data.toList)) ∧ Dr w w' := by
  have hr := fun u => right_any s 14 14 u hs
  unfold timeB
  cases hb : rightB s.data.toList 14 14 with
  | false =>
    rw [hb] at hr
    have HR := Lib.hid hr
    clear hr hb
    go_enter Tryz.func51, Tryz.ntmps51
    go_wp2_with (go_at_call 55; refine (HR.out _).mono ?_; rintro e w' ⟨rfl, rfl⟩)
    go_ret
    exact ⟨rfl, Dr.refl _⟩
  | true =>
    rw [hb] at hr
    obtain ⟨b1, b2, b3⟩ := rightB_len hb
    have hl := s_size s
    have hsz : s.size = 14 := by omega
    have hln : s.data.toList.length = 14 := by omega
    have part : ∀ i j, i < j → j ≤ 14 → ∀ u, Calls Tryz.prog 89 #[.string (s.extract i j)] u fun e w' => e = .returned (.int .u64 (prt s.data.toList i j : Int)) ∧ u = w' := fun i j h1 h2 u =>
      s_part_any _ _ (ext_cutN s i j) (cutN_all b3 i j) (by rw [cutN_len _ _ _ (by omega)]; omega) (by rw [cutN_len _ _ _ (by omega)]; omega) u
    have p0 := part 0 4 (by omega) (by omega)
    have p1 := part 4 6 (by omega) (by omega)
    have p2 := part 6 8 (by omega) (by omega)
    have p3 := part 8 10 (by omega) (by omega)
    have p4 := part 10 12 (by omega) (by omega)
    have p5 := part 12 14 (by omega) (by omega)
    rw [show s.extract 12 14 = s.extract 12 s.size from by rw [hsz]] at p5
    obtain ⟨X0, x0⟩ : ∃ X, s.extract 0 4 = X := ⟨_, rfl⟩
    obtain ⟨X1, x1⟩ : ∃ X, s.extract 4 6 = X := ⟨_, rfl⟩
    obtain ⟨X2, x2⟩ : ∃ X, s.extract 6 8 = X := ⟨_, rfl⟩
    obtain ⟨X3, x3⟩ : ∃ X, s.extract 8 10 = X := ⟨_, rfl⟩
    obtain ⟨X4, x4⟩ : ∃ X, s.extract 10 12 = X := ⟨_, rfl⟩
    obtain ⟨X5, x5⟩ : ∃ X, s.extract 12 s.size = X := ⟨_, rfl⟩
    rw [x0] at p0
    rw [x1] at p1
    rw [x2] at p2
    rw [x3] at p3
    rw [x4] at p4
    rw [x5] at p5
    generalize prt s.data.toList 0 4 = Y at p0 ⊢
    generalize prt s.data.toList 4 6 = M at p1 ⊢
    generalize prt s.data.toList 6 8 = D at p2 ⊢
    generalize prt s.data.toList 8 10 = H at p3 ⊢
    generalize prt s.data.toList 10 12 = N at p4 ⊢
    generalize prt s.data.toList 12 14 = C at p5 ⊢
    have hdt := fun u => s_dated_any Y M D u
    have hg : (4 : Int) ≤ (s.size : Int) := by omega
    have hg2 : (6 : Int) ≤ (s.size : Int) := by omega
    have hg3 : (8 : Int) ≤ (s.size : Int) := by omega
    have hg4 : (10 : Int) ≤ (s.size : Int) := by omega
    have hg5 : (12 : Int) ≤ (s.size : Int) := by omega
    have HSZ := Lib.hid hsz
    have P0 := Lib.hid p0; have P1 := Lib.hid p1; have P2 := Lib.hid p2; have P3 := Lib.hid p3; have P4 := Lib.hid p4; have P5 := Lib.hid p5; have HR := Lib.hid hr
    clear p0 p1 p2 p3 p4 p5 hr part hb b1 b2 b3 hl hln hsz hs
    cases hd : datedB Y M D with
    | _ =>
      rw [hd] at hdt
      have HDT := Lib.hid hdt
      clear hdt
      have HD := Lib.hid hd
      clear hd
      go_enter Tryz.func51, Tryz.ntmps51
      go_wp2_with (go_at_call 55; refine (HR.out _).mono ?_; rintro e w' ⟨rfl, rfl⟩)
      go_quiet ((go_at_call 89; first | with_reducible exact quiet_same (P0.out _) | with_reducible exact quiet_same (P1.out _) | with_reducible exact quiet_same (P2.out _)))
      have hd1 : Dr w (w.drewN nq) := (Dr.refl w).drewN nq
      generalize w.drewN nq = w1 at hd1 ⊢
      go_wp2
      go_quiet ((go_at_call 89; first | with_reducible exact quiet_same (P3.out _) | with_reducible exact quiet_same (P4.out _) | with_reducible exact quiet_same (P5.out _)))
      go_wp2_with (go_at_call 90; refine (HDT.out _).mono ?_; rintro e w' ⟨rfl, rfl⟩)
      all_goals
        go_ret
        refine ⟨ret_bool ?_, hd1.drewN _⟩
        unfold timeP
        rw [HD.out, Bool.eq_iff_iff]
        simp
        try omega
end Go.Proofs.YthlgnmgjfgbffaaGreatDoor
