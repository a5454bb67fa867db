/- The texts of TreeDeep, and what the tree makes of them: plain functions on lists, no program. -/
import Derived.Test.YtdgfpjekahpggaaGreatDoorTokMath2
import Derived.Test.YtdgfpjekahpggaaGreatDoorMathA
namespace Go.Proofs.YtdgfpjekahpggaaGreatDoor
set_option linter.unusedVariables false

def repL (k : Nat) (p : List UInt8) : List UInt8 := (List.replicate k p).flatten
def opL (k : Nat) : List UInt8 := repL k [60, 97, 62]
def clL (k : Nat) : List UInt8 := repL k [60, 47, 97, 62]
theorem rep_succ (k : Nat) (p : List UInt8) : repL (k + 1) p = p ++ repL k p := by unfold repL; rw [List.replicate_succ, List.flatten_cons]
theorem rep_succ' (k : Nat) (p : List UInt8) : repL (k + 1) p = repL k p ++ p := by unfold repL; rw [List.replicate_succ', List.flatten_append]; simp
theorem rep_len (k : Nat) (p : List UInt8) : (repL k p).length = k * p.length := by
  induction k with
  | zero => simp [repL]
  | succ k ih => rw [rep_succ, List.length_append, ih, Nat.succ_mul]; omega
theorem op_len (k : Nat) : (opL k).length = k * 3 := rep_len k _
theorem cl_len (k : Nat) : (clL k).length = k * 4 := rep_len k _
theorem cl_take (k : Nat) (h : 1 ≤ k) : (clL k).take (k * 4 - 4) = clL (k - 1) := by
  obtain ⟨j, rfl⟩ : ∃ j, k = j + 1 := ⟨k - 1, by omega⟩
  unfold clL
  rw [rep_succ', show (j + 1) * 4 - 4 = (repL j [60, 47, 97, 62]).length from by rw [rep_len]; simp; omega, List.take_left]
  rfl
theorem utf8_rep {p : List UInt8} (h : utf8B p = true) : ∀ k, utf8B (repL k p) = true
  | 0 => rfl
  | k + 1 => by rw [rep_succ]; exact (runes_app h (utf8_rep h k)).1
theorem utf8_op (k : Nat) : utf8B (opL k) = true := utf8_rep (by decide) k
theorem utf8_cl (k : Nat) : utf8B (clL k) = true := utf8_rep (by decide) k
theorem tree_bl : allBl [] := fun x h => by cases h
theorem toks_o (r : List UInt8) : toksV ([60, 97, 62] ++ r) = (toksV r).map (oA :: ·) := by
  refine toks_step (by simp) ?_
  show tokP (60 :: ([97] ++ ([] ++ (62 :: r)))) = _
  rw [tok_open rfl (fun x q e => by injection e with e _; subst e; decide), open_end tree_bl]
  rfl
theorem toks_b (r : List UInt8) : toksV ([60, 98, 47, 62] ++ r) = (toksV r).map (oB :: ·) := by
  refine toks_step (by simp) ?_
  show tokP (60 :: ([98] ++ ([] ++ (47 :: 62 :: r)))) = _
  rw [tok_open rfl (fun x q e => by injection e with e _; subst e; decide), open_empty tree_bl]
  rfl
theorem toks_c (r : List UInt8) : toksV ([60, 47, 97, 62] ++ r) = (toksV r).map (cA :: ·) := by
  refine toks_step (by simp) ?_
  show tokP (60 :: 47 :: ([97] ++ ([] ++ (62 :: r)))) = _
  rw [tok_close rfl tree_bl]
  rfl
theorem toks_cb (r : List UInt8) : toksV ([60, 47, 98, 62] ++ r) = (toksV r).map (cB :: ·) := by
  refine toks_step (by simp) ?_
  show tokP (60 :: 47 :: ([98] ++ ([] ++ (62 :: r)))) = _
  rw [tok_close rfl tree_bl]
  rfl
theorem toks_x (s r : List UInt8) (he : escL s = s) (hs : s ≠ []) (hr : ∀ x q, r = x :: q → x = 60) : toksV (s ++ r) = (toksV r).map (xT s :: ·) := by
  refine toks_step (by simp [hs]) ?_
  have h := tok_text (s := s) (r := r) hs hr
  rw [he] at h
  exact h
theorem toks_os (r : List UInt8) : ∀ k, toksV (opL k ++ r) = (toksV r).map (List.replicate k oA ++ ·)
  | 0 => by show toksV r = _; simp
  | k + 1 => by
    unfold opL
    rw [rep_succ, List.append_assoc, toks_o]
    show (toksV (opL k ++ r)).map _ = _
    rw [toks_os r k, Option.map_map, List.replicate_succ]
    rfl
theorem toks_cs (r : List UInt8) : ∀ k, toksV (clL k ++ r) = (toksV r).map (List.replicate k cA ++ ·)
  | 0 => by show toksV r = _; simp
  | k + 1 => by
    unfold clL
    rw [rep_succ, List.append_assoc, toks_c]
    show (toksV (clL k ++ r)).map _ = _
    rw [toks_cs r k, Option.map_map, List.replicate_succ]
    rfl
theorem cl_head (k : Nat) (r : List UInt8) (hr : ∀ x q, r = x :: q → x = 60) : ∀ x q, clL k ++ r = x :: q → x = 60 := by
  intro x q e
  cases k with
  | zero => exact hr x q e
  | succ k =>
    unfold clL at e
    rw [rep_succ] at e
    injection e with e _
    exact e.symm
theorem parse_of {l : List UInt8} {ts : List Tok} (hl : l.length ≤ 4096) (hu : utf8B l = true) (hp : isP prologL l = none) (ht : toksV l = some ts) : parseE l = buildE ts ∧ parseL l = buildL ts := by
  have hb : bodyL l = l := by unfold bodyL; rw [hp]; rfl
  have h1 : tokE l = 0 := by
    unfold tokE
    rw [if_neg (by omega), if_neg (by rw [hu]; decide), hb, ht]
    rfl
  have h2 : tokL l = ts := by
    unfold tokL
    rw [if_pos h1, hb, ht]
    rfl
  exact ⟨by unfold parseE; rw [if_pos h1, h2], by unfold parseL; rw [if_pos h1, h2]⟩
theorem pro_a (k : Nat) (h : 1 ≤ k) (r : List UInt8) : isP prologL (opL k ++ r) = none := by
  obtain ⟨j, rfl⟩ : ∃ j, k = j + 1 := ⟨k - 1, by omega⟩
  unfold opL
  rw [rep_succ]
  rfl
/-- texts that are all right, and their tokens -/
structure Tks (l : List UInt8) (ts : List Tok) : Prop where
  utf : utf8B l = true
  tok : toksV l = some ts
theorem d_text (n : Nat) : Tks (opL n ++ [32, 120] ++ clL n) (deepT n [32, 120]) := by
  refine ⟨(runes_app (runes_app (utf8_op n) (by decide)).1 (utf8_cl n)).1, ?_⟩
  have hc := cl_head n [] (fun x q e => by cases e)
  rw [List.append_nil] at hc
  rw [List.append_assoc, toks_os, toks_x _ _ rfl (by decide) hc, ← List.append_nil (clL n), toks_cs, toksV_nil]
  simp [deepT]
theorem d_blank (n : Nat) (h1 : 1 ≤ n) : Tks ([32] ++ opL n ++ [32, 10, 32] ++ clL n ++ [9]) ([xT [32]] ++ deepT n [32, 10, 32] ++ [xT [9]]) := by
  refine ⟨(runes_app (runes_app (runes_app (runes_app (by decide) (utf8_op n)).1 (by decide)).1 (utf8_cl n)).1 (by decide)).1, ?_⟩
  have ho : ∀ (r : List UInt8) x q, opL n ++ r = x :: q → x = 60 := by
    intro r x q e
    obtain ⟨j, rfl⟩ : ∃ j, n = j + 1 := ⟨n - 1, by omega⟩
    unfold opL at e
    rw [rep_succ] at e
    injection e with e _
    exact e.symm
  have hc : ∀ x q, clL n ++ [9] = x :: q → x = 60 := by
    intro x q e
    obtain ⟨j, rfl⟩ : ∃ j, n = j + 1 := ⟨n - 1, by omega⟩
    unfold clL at e
    rw [rep_succ] at e
    injection e with e _
    exact e.symm
  simp only [List.append_assoc]
  rw [toks_x _ _ rfl (by decide) (ho _), toks_os, toks_x _ _ rfl (by decide) hc, toks_cs, ← List.append_nil [9], toks_x _ _ rfl (by decide) (fun x q e => by cases e), toksV_nil]
  simp [deepT]
theorem d_more (n : Nat) : Tks (opL n ++ clL n ++ [60, 47, 97, 62]) (List.replicate n oA ++ List.replicate n cA ++ [cA]) := by
  refine ⟨(runes_app (runes_app (utf8_op n) (utf8_cl n)).1 (by decide)).1, ?_⟩
  rw [List.append_assoc, toks_os, toks_cs, ← List.append_nil [60, 47, 97, 62], toks_c, toksV_nil]
  simp
theorem d_few (n : Nat) : Tks (opL n ++ clL (n - 1)) (List.replicate n oA ++ List.replicate (n - 1) cA) := by
  refine ⟨(runes_app (utf8_op n) (utf8_cl _)).1, ?_⟩
  rw [toks_os, ← List.append_nil (clL _), toks_cs, toksV_nil]
  simp
theorem d_second (n : Nat) : Tks (opL n ++ clL n ++ [60, 98, 47, 62]) (List.replicate n oA ++ List.replicate n cA ++ [oB]) := by
  refine ⟨(runes_app (runes_app (utf8_op n) (utf8_cl n)).1 (by decide)).1, ?_⟩
  rw [List.append_assoc, toks_os, toks_cs, ← List.append_nil [60, 98, 47, 62], toks_b, toksV_nil]
  simp
theorem d_other (n : Nat) : Tks (opL n ++ clL (n - 1) ++ [60, 47, 98, 62]) (List.replicate n oA ++ List.replicate (n - 1) cA ++ [cB]) := by
  refine ⟨(runes_app (runes_app (utf8_op n) (utf8_cl _)).1 (by decide)).1, ?_⟩
  rw [List.append_assoc, toks_os, toks_cs, ← List.append_nil [60, 47, 98, 62], toks_cb, toksV_nil]
  simp
theorem d_out (n : Nat) : Tks (opL n ++ clL n ++ [120]) (List.replicate n oA ++ List.replicate n cA ++ [xT [120]]) := by
  refine ⟨(runes_app (runes_app (utf8_op n) (utf8_cl n)).1 (by decide)).1, ?_⟩
  rw [List.append_assoc, toks_os, toks_cs, ← List.append_nil [120], toks_x _ _ rfl (by decide) (fun x q e => by cases e), toksV_nil]
  simp
theorem d_mixed (n : Nat) : Tks (opL n ++ [60, 98, 47, 62, 120] ++ clL n) (List.replicate n oA ++ [oB] ++ [xT [120]] ++ List.replicate n cA) := by
  refine ⟨(runes_app (runes_app (utf8_op n) (by decide)).1 (utf8_cl n)).1, ?_⟩
  have hc := cl_head n [] (fun x q e => by cases e)
  rw [List.append_nil] at hc
  rw [List.append_assoc, toks_os, show [60, 98, 47, 62, 120] ++ clL n = [60, 98, 47, 62] ++ ([120] ++ clL n) from rfl, toks_b, toks_x _ _ rfl (by decide) hc, ← List.append_nil (clL n), toks_cs, toksV_nil]
  simp
/-- each of the six texts -/
def badL (n w : Nat) : List UInt8 := if w = 0 then opL n ++ clL (n - 1) else if w = 1 then opL n ++ clL n ++ [60, 98, 47, 62] else if w = 2 then opL n ++ clL (n - 1) ++ [60, 47, 98, 62] else if w = 3 then opL n ++ clL n ++ [120] else if w = 4 then opL n ++ [60, 98, 47, 62, 120] ++ clL n else opL n ++ clL n ++ [60, 47, 97, 62]
theorem deep_parse (n : Nat) (h1 : 1 ≤ n) (h2 : n ≤ 32) : parseE (opL n ++ [32, 120] ++ clL n) = 0 ∧ (parseL (opL n ++ [32, 120] ++ clL n)).length = n ∧ ((parseL (opL n ++ [32, 120] ++ clL n))[n - 1]?).map (·.text) = some [32, 120] := by
  obtain ⟨u, t⟩ := d_text n
  obtain ⟨e1, e2⟩ := parse_of (by simp only [List.length_append, op_len, cl_len, List.length_cons, List.length_nil]; omega) u (by rw [List.append_assoc]; exact pro_a n h1 _) t
  rw [e1, e2]
  exact deep_ok n h1 h2 _
theorem deep_parse_no (n : Nat) (h1 : 32 < n) (h2 : n ≤ 40) : parseE (opL n ++ [32, 120] ++ clL n) = 11 ∧ parseL (opL n ++ [32, 120] ++ clL n) = [] := by
  obtain ⟨u, t⟩ := d_text n
  obtain ⟨e1, e2⟩ := parse_of (by simp only [List.length_append, op_len, cl_len, List.length_cons, List.length_nil]; omega) u (by rw [List.append_assoc]; exact pro_a n (by omega) _) t
  rw [e1, e2]
  exact deep_no n h1 _
theorem blank_parse (n : Nat) (h1 : 1 ≤ n) (h2 : n ≤ 32) : parseE ([32] ++ opL n ++ [32, 10, 32] ++ clL n ++ [9]) = 0 ∧ (parseL ([32] ++ opL n ++ [32, 10, 32] ++ clL n ++ [9])).length = n ∧ ((parseL ([32] ++ opL n ++ [32, 10, 32] ++ clL n ++ [9]))[n - 1]?).map (·.text) = some [32, 10, 32] := by
  obtain ⟨u, t⟩ := d_blank n h1
  obtain ⟨e1, e2⟩ := parse_of (by simp only [List.length_append, op_len, cl_len, List.length_cons, List.length_nil]; omega) u (by rfl) t
  rw [e1, e2]
  exact blank_ok n h1 h2 _ _ _ (by decide) (by decide)
theorem bad_parse (n w : Nat) (h1 : 1 ≤ n) (h2 : n ≤ 32) (h3 : w = 4 → n < 32) : parseE (badL n w) = if w = 4 then 12 else 10 := by
  have go : ∀ (l : List UInt8) (ts : List Tok), Tks l ts → l.length ≤ 4096 → isP prologL l = none → parseE l = buildE ts := fun l ts h hl hp => (parse_of hl h.utf hp h.tok).1
  unfold badL
  by_cases w0 : w = 0
  · rw [if_pos w0, if_neg (by omega), go _ _ (d_few n) (by simp only [List.length_append, op_len, cl_len]; omega) (pro_a n h1 _)]
    exact few_no n h1 h2
  rw [if_neg w0]
  by_cases w1 : w = 1
  · rw [if_pos w1, if_neg (by omega), go _ _ (d_second n) (by simp only [List.length_append, op_len, cl_len, List.length_cons, List.length_nil]; omega) (by rw [List.append_assoc]; exact pro_a n h1 _)]
    exact second_no n h1 h2
  rw [if_neg w1]
  by_cases w2 : w = 2
  · rw [if_pos w2, if_neg (by omega), go _ _ (d_other n) (by simp only [List.length_append, op_len, cl_len, List.length_cons, List.length_nil]; omega) (by rw [List.append_assoc]; exact pro_a n h1 _)]
    exact other_no n h1 h2
  rw [if_neg w2]
  by_cases w3 : w = 3
  · rw [if_pos w3, if_neg (by omega), go _ _ (d_out n) (by simp only [List.length_append, op_len, cl_len, List.length_cons, List.length_nil]; omega) (by rw [List.append_assoc]; exact pro_a n h1 _)]
    exact text_no n h2
  rw [if_neg w3]
  by_cases w4 : w = 4
  · rw [if_pos w4, if_pos w4, go _ _ (d_mixed n) (by simp only [List.length_append, op_len, cl_len, List.length_cons, List.length_nil]; omega) (by rw [List.append_assoc]; exact pro_a n h1 _)]
    exact mixed_no n h1 (h3 w4)
  rw [if_neg w4, if_neg w4, go _ _ (d_more n) (by simp only [List.length_append, op_len, cl_len, List.length_cons, List.length_nil]; omega) (by rw [List.append_assoc]; exact pro_a n h1 _)]
  exact more_no n h2
theorem bad_len (n w : Nat) (h2 : n ≤ 40) : (badL n w).length ≤ 65536 := by
  unfold badL
  repeat' split
  all_goals (simp only [List.length_append, op_len, cl_len, List.length_cons, List.length_nil]; omega)
end Go.Proofs.YtdgfpjekahpggaaGreatDoor
