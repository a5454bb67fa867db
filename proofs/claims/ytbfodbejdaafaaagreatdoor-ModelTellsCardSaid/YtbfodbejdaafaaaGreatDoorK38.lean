/- The texts ModCheck, joined. -/
import Derived.Test.YtbfodbejdaafaaaGreatDoorK36
import Derived.Test.YtbfodbejdaafaaaGreatDoorK37
/- Package model: whether nodes are a file as the models have it: the contract. -/
namespace Go.Proofs.YtbfodbejdaafaaaGreatDoor
open Go.RowKit
set_option maxHeartbeats 2000000
set_option linter.unusedVariables false

/-- which of the checks are asked -/
def headF (i : Nat) : FuncId := if i = 0 then 38 else 36
def insideF (o : Option (List Chd)) : FuncId := if o.isSome then 39 else 37
theorem headF_enters (i : Nat) : ∀ args w, (callFunc (headF i) args).run Tryz.prog w = .ok (.enter (headF i) args) w := by
  intro args w
  unfold headF
  split <;> kernel_rfl
theorem insideF_enters (o : Option (List Chd)) : ∀ args w, (callFunc (insideF o) args).run Tryz.prog w = .ok (.enter (insideF o) args) w := by
  intro args w
  unfold insideF
  split <;> kernel_rfl
variable {w w' : World} {g G : Nat} {A : Option Addr} {n c : Nat} {N : Nat → Prop} {ns : List Nod} {a : List Chd}
/-- what the head's check is answered -/
def headE (ns : List Nod) (i : Nat) : Int := if i = 0 then (if firstB ns then 0 else 13) else match ns[i]? with | none => 0 | some x => if x.attrs = [] then 0 else 13
theorem m_head (i : Nat) (h : FileT w g G A n c N ns a) (hi : i < n) (hil : i < ns.length) : Calls Tryz.prog (headF i) #[.pointer (some ⟨g, 0, none⟩), .int .i64 (i : Int)] w fun e w' => e = .returned (.int .i64 (headE ns i)) ∧ Fr No w w' := by
  unfold headF headE
  by_cases h0 : i = 0
  · subst h0
    rw [if_pos rfl, if_pos rfl]
    exact m_first h hil
  · rw [if_neg h0, if_neg h0, List.getElem?_eq_getElem hil]
    exact m_bare i h hi hil
/-- what stands in a node, where its head is right -/
theorem m_inside (i : Nat) (hr : rightN ns = true) (hf : firstB ns = true) (h : FileT w g G A n c N ns a) (hi : i < n) (hil : i < ns.length) (hn : n ≤ 1000000) (hs : NodW ns[i]) (hT : Tabs w) (hhead : headE ns i = 0) (hok : nodF ns i = 0) (has : AsOk ns a i) :
    Calls Tryz.prog (insideF (modelL ns[i].name)) #[.pointer (some ⟨g, 0, none⟩), .int .i64 (i : Int)] w fun e w' => ∃ a', e = .returned (.int .i64 (nodE ns i)) ∧ FileT w' g G A n c N ns a' ∧ Fr (Just G) w w' ∧ (nodE ns i = 0 → AsOk ns a' (i + 1)) := by
  have ha : ¬ (0 < i ∧ ns[i].attrs ≠ []) := by
    rintro ⟨h1, h2⟩
    unfold headE at hhead
    rw [if_neg (by omega), List.getElem?_eq_getElem hil] at hhead
    simp only at hhead
    rw [if_neg h2] at hhead
    cases hhead
  unfold insideF
  cases hm : modelL ns[i].name with
  | some cs =>
    rw [if_pos (by rfl)]
    refine (m_modelled i cs h hi hil hn hm hs).mono ?_
    rintro e w1 ⟨a', rfl, h1, h2, h3, h4⟩
    have hE := nodE_model hil ha hm
    refine ⟨a', by rw [hE], h1, h2, fun h0 => ?_⟩
    rw [hE] at h0
    refine as_fill hil has hm (h4 ?_) h3
    cases hb : (blankB ns[i].text && fillB cs (namesK ns i)) with
    | true => rfl
    | false => rw [hb] at h0; cases h0
  | none =>
    rw [if_neg (by simp)]
    have hi0 : 0 < i := by
      rcases Nat.eq_zero_or_pos i with h0 | h0
      · subst h0
        have h1 := first_name hil
        rw [h1, Bool.and_eq_true, decide_eq_true_iff] at hf
        rw [hf.1] at hm
        cases (show modelL docS = some docC from rfl).symm.trans hm
      · exact h0
    have hpar := right_par hr hil hi0
    obtain ⟨p, hp⟩ := Int.eq_ofNat_of_zero_le hpar.1
    have hpl : p < ns.length := by omega
    have hE := nodE_leaf hil hpl ha hm hp
    by_cases hk : kidsL ns (i : Int) = []
    · rw [if_neg (by simpa using hk)] at hE
      have hd := has i p hil hpl (by omega) hp
      refine (m_plain_leaf i _ h hi hil hn hk hd hs hT).mono ?_
      rintro e w1 ⟨rfl, hf1⟩
      exact ⟨a, by rw [hE], h.no hf1, hf1.no, fun _ => as_leaf hil has hk⟩
    · rw [if_pos hk] at hE
      refine (m_plain_kids i h hi hn hk).mono ?_
      rintro e w1 ⟨rfl, hf1⟩
      exact ⟨a, by rw [hE], h.no hf1, hf1.no, fun h0 => by rw [hE] at h0; cases h0⟩
theorem head_first {ns : List Nod} : headE ns 0 = if firstB ns then 0 else 13 := rfl
theorem head_next {ns : List Nod} {i : Nat} (hi : i < ns.length) (h0 : 0 < i) (h : headE ns i ≠ 0) : headE ns i = 13 ∧ nodE ns i = 13 := by
  unfold headE at h ⊢
  rw [if_neg (by omega), List.getElem?_eq_getElem hi] at h ⊢
  simp only at h ⊢
  by_cases ha : ns[i].attrs = []
  · rw [if_pos ha] at h; exact absurd rfl h
  · rw [if_neg ha]; exact ⟨rfl, nodE_attrs hi h0 ha⟩
theorem made_chd (n : Nat) : madeCells zChd.cells.toArray (n * 6) = (cellsL (List.replicate n zChd)).toArray := by
  apply Array.ext'
  apply List.ext_getElem?
  intro j
  have hl := cells_len (List.replicate n zChd)
  rw [List.length_replicate] at hl
  rcases Nat.lt_or_ge j (n * 6) with hj | hj
  · obtain ⟨q, i, rfl, hi⟩ : ∃ q i, j = q * 6 + i ∧ i < 6 := ⟨j / 6, j % 6, by omega, by omega⟩
    have hq : q < n := by omega
    have e1 := cells_at (List.replicate n zChd) q i (by rw [List.length_replicate]; exact hq) hi
    rw [List.getElem_replicate] at e1
    show (madeCells zChd.cells.toArray (n * 6)).toList[q * 6 + i]? = (cellsL (List.replicate n zChd))[q * 6 + i]?
    rw [e1]
    unfold madeCells
    rw [Array.toList_map, List.getElem?_map, Array.toList_range, List.getElem?_range hj]
    have hm : (q * 6 + i) % zChd.cells.toArray.size = i := by show (q * 6 + i) % 6 = i; omega
    simp only [Option.map_some, hm]
    have : i = 0 ∨ i = 1 ∨ i = 2 ∨ i = 3 ∨ i = 4 ∨ i = 5 := by omega
    rcases this with rfl | rfl | rfl | rfl | rfl | rfl <;> rfl
  · rw [List.getElem?_eq_none (by rw [Array.length_toList, size_madeCells]; exact hj), List.getElem?_eq_none (by show (cellsL (List.replicate n zChd)).length ≤ j; omega)]
theorem info_chd : (Tryz.prog.info? 32).map (fun i => (i.zero, i.size, i.bytes)) = some (some zChd.val, 6, 56) := by kernel_rfl
theorem make_chd (n : Nat) (hn : n ≤ 1000000) (u : World) : (Instr.makeSlice 24 (.int .i64 (n : Int)) (.int .i64 (n : Int))).run Tryz.prog u = .ok (.slice (some ⟨u.heap.size, 0, none⟩) n n) (u.alloc (.cells (cellsL (List.replicate n zChd)).toArray 32)) := by
  obtain ⟨i, hi, hz, h2, h3⟩ := info_parts info_chd
  have hr := run_make (P := Tryz.prog) u 24 32 i zChd.val Tryz.underlying24 hi hz .i64 .i64 (n : Int) (n : Int) (by omega) (by omega) (by rw [h3]; omega) (by omega)
  rw [Int.toNat_natCast, h2] at hr
  rw [hr, ← made_chd]
  rfl
theorem file_new (h : RdI 4 NodI w N A n c ns) (hN : ∀ i, N i → i < w.heap.size) (w1 : World) (hf1 : Fr No w w1) :
    FileT ((w1.alloc (.cells (cellsL (List.replicate n zChd)).toArray 32)).alloc (.cells #[.slice A n c, .slice (some ⟨w1.heap.size, 0, none⟩) n n] 47)) (w1.heap.size + 1) w1.heap.size A n c N ns (List.replicate n zChd) where
  bk := by
    have h := Bk.new (w1.alloc (.cells (cellsL (List.replicate n zChd)).toArray 32)) 47 #[.slice A n c, .slice (some ⟨w1.heap.size, 0, none⟩) n n]
    have e : (w1.alloc (.cells (cellsL (List.replicate n zChd)).toArray 32)).heap.size = w1.heap.size + 1 := by simp
    rw [e] at h
    exact h
  as_ := (Bk.new w1 _ _).no ((Fr.refl No _).alloc _)
  len := List.length_replicate
  rd := h.no nod_ok ((hf1.alloc _).alloc _)
  ne := by omega
  hN := fun i hi => by have := hN i hi; have := hf1.size; omega
theorem checks2 (i : Nat) (h : FileT w g G A n c N ns a) (hi : i < n) (hil : i < ns.length) :
    Calls Tryz.prog 21 #[.pointer (some ⟨g, 0, none⟩), .int .i64 (i : Int)] w fun e w' => ∃ B : Nat, e = .returned (.slice (some ⟨B, 0, none⟩) 2 2) ∧
      Bk w' B 51 [.func (.func (headF i)) #[.pointer (some ⟨g, 0, none⟩)] #[], .func (.func (insideF (modelL ns[i].name))) #[.pointer (some ⟨g, 0, none⟩)] #[]] ∧ w.heap.size ≤ B ∧ Fr No w w' := m_checks i h hi hil
set_option maxRecDepth 20000 in
theorem m_check_any (ns : List Nod) (A : Option Addr) (n c : Nat) (N : Nat → Prop) (w : World) (h : RdI 4 NodI w N A n c ns) (hs : ∀ a ∈ ns, NodW a) (hn : n ≤ 1000000) (hN : ∀ i, N i → i < w.heap.size) (hT : Tabs w) :
    Calls Tryz.prog 9 #[.slice A n c] w fun e w' => e = .returned (.int .i64 (chkN ns)) ∧ Fr No w w' := by
  have hlen := h.len nod_ok (by omega)
  have hri := c_right_wide ns A n c N w h hs hn hT
  have HRI := Lib.hid hri; have HR := Lib.hid h; have HS := Lib.hid hs; have HTB := Lib.hid hT; have HN := Lib.hid hN
  clear hri h hs hN hT
  cases hr : rightN ns with
  | false =>
    rw [chk_tree hr]
    rw [hr] at HRI
    clear hr
    go_enter Tryz.func9, Tryz.ntmps9
    go_wp2_with (go_at_call 20; refine HRI.out.mono ?_; rintro e w1 ⟨rfl, hf1⟩)
    go_ret
    exact ⟨rfl, hf1⟩
  | true =>
    rw [hr] at HRI
    have HT := Lib.hid hr
    clear hr
    obtain ⟨hl0, hl5⟩ := right_len HT.out
    have hn0 : 0 < n := by omega
    have hmk := make_chd n hn
    obtain ⟨R, hR⟩ : ∃ R, chkN ns = R := ⟨_, rfl⟩
    rw [hR]
    have HRR := Lib.hid hR
    clear hR
    go_enter Tryz.func9, Tryz.ntmps9
    go_wp2_with (first
      | (go_at_call 20; refine HRI.out.mono ?_; rintro e w1 ⟨rfl, hf1⟩))
    have HFN := Lib.hid (file_new HR.out HN.out w1 hf1)
    have HF1 := Lib.hid ((hf1.alloc (.cells (cellsL (List.replicate n zChd)).toArray 32)).alloc (.cells #[.slice A n c, .slice (some ⟨w1.heap.size, 0, none⟩) n n] 47))
    have hw1 : w.heap.size ≤ w1.heap.size := hf1.size
    clear hf1 hmk
    generalize hgG : w1.heap.size = G at *
    generalize hWW : (w1.alloc (.cells (cellsL (List.replicate n zChd)).toArray 32)).alloc (.cells #[.slice A n c, .slice (some ⟨G, 0, none⟩) n n] 47) = W at *
    clear hWW hgG
    go_loopw [18] (fun iv wr => ∃ (i : Nat) (a : List Chd), iv = .int .i64 (i : Int) ∧ i ≤ n ∧ FileT wr (G + 1) G A n c N ns a ∧ Fr No w wr ∧ AsOk ns a i ∧ nodF ns i = 0 ∧ (0 < i → firstB ns = true)) (fun iv _ => n - (intOf iv).toNat)
    case atStart => exact ⟨0, _, rfl, Nat.zero_le _, HFN.out, HF1.out, as_zero _ _, rfl, fun h => by omega⟩
    case round =>
      obtain ⟨i, a, rfl, hi, hft, hfr, has, hok, hfb⟩ := hrel
      rcases Nat.lt_or_ge i n with hlt | hge
      · have hltI : (i : Int) < (n : Int) := by omega
        have hil : i < ns.length := by omega
        have hck := checks2 i hft hlt hil
        have hhd := fun u (hf : Fr No wr u) => m_head i (hft.no hf) hlt hil
        have hin := fun (hb : firstB ns = true) (hh : headE ns i = 0) u (hf : Fr No wr u) => m_inside i HT.out hb (hft.no hf) hlt hil hn (HS.out _ (List.getElem_mem hil)) (HTB.out.fr (hfr.trans hf)) hh hok has
        have e1 := headF_enters i
        have e2 := insideF_enters (modelL ns[i].name)
        have HCK := Lib.hid hck; have HHD := Lib.hid hhd; have HIN := Lib.hid hin; have HFT := Lib.hid hft; have HFR := Lib.hid hfr; have HAS := Lib.hid has; have HOK := Lib.hid hok
        clear hck hhd hin hft hfr has hok
        generalize headF i = F1 at *
        generalize insideF (modelL ns[i].name) = F2 at *
        by_cases q1 : headE ns i = 0
        · rw [q1] at HHD
          have hbf : firstB ns = true := by
            rcases Nat.eq_zero_or_pos i with h0 | h0
            · subst h0
              rw [head_first] at q1
              cases hb : firstB ns with
              | true => rfl
              | false => rw [hb] at q1; cases q1
            · exact hfb h0
          have hin := HIN.out hbf q1
          have HIN2 := Lib.hid hin
          clear hin HIN
          have hRR : R = nodF ns ns.length := by rw [← HRR.out, chk_all HT.out hbf]
          have HR2 := Lib.hid hRR; have HBF := Lib.hid hbf; have HQ1 := Lib.hid q1
          clear hRR hbf q1 hfb
          obtain ⟨E, hE⟩ : ∃ E, nodE ns i = E := ⟨_, rfl⟩
          rw [hE] at HIN2
          go_wp2_with (first
            | (go_at_call 21; refine HCK.out.mono ?_; rintro e w2 ⟨B, rfl, hb2, hB2, hf2⟩; have c0 : w2.cell? ⟨B, 0, none⟩ = some (.func (.func F1) #[.pointer (some ⟨G + 1, 0, none⟩)] #[]) := hb2.cell 0; have HB2 := Lib.hid hb2; have F22 := Lib.hid hf2; clear hb2 hf2))
          refine wp_loop_rounds 3 ?_
          rw [rounds_succ]
          go_wp2_with (first
            | ((with_reducible refine (HHD.out _ F22.out).mono ?_); rintro e w3 ⟨rfl, hf3⟩; have F33 := Lib.hid (F22.out.trans hf3); have c1 : w3.cell? ⟨B, 1, none⟩ = some (.func (.func F2) #[.pointer (some ⟨G + 1, 0, none⟩)] #[]) := (HB2.out.no hf3).cell 1; clear hf3 c0))
          rw [rounds_succ]
          by_cases hE0 : E = 0
          · subst hE0
            go_wp2_with (first
              | ((with_reducible refine (HIN2.out _ F33.out).mono ?_); rintro e w4 ⟨a', rfl, hft4, hf4, has4⟩; have H4 := Lib.hid hft4; have F4 := Lib.hid ((HFR.out.trans F33.out).trans_just hf4 hw1); have A4 := Lib.hid has4; clear hft4 hf4 has4 c1))
            rw [rounds_succ]
            go_wp2
            go_roundw
            case rel => exact ⟨i + 1, a', by go_num, hlt, H4.out, F4.out, (by first | exact A4.out trivial | exact A4.out rfl), by rw [nodF_at HOK.out]; exact hE, fun _ => HBF.out⟩
            case measure => simp [intOf]; omega
          · have hEb : (E != 0) = true := by rw [bne_iff_ne]; exact hE0
            have hRE : R = E := by rw [HR2.out, nodF_err HOK.out (by rw [hE]; exact hE0) hil, hE]
            subst hRE
            clear hE0
            go_wp2_with (first
              | ((with_reducible refine (HIN2.out _ F33.out).mono ?_); rintro e w4 ⟨a', rfl, hft4, hf4, has4⟩; have F4 := Lib.hid ((HFR.out.trans F33.out).trans_just hf4 hw1); clear hft4 hf4 has4 c1))
            go_ret
            exact ⟨rfl, F4.out⟩
        · have hv : headE ns i = 13 ∧ R = 13 := by
            rcases Nat.eq_zero_or_pos i with h0 | h0
            · subst h0
              rw [head_first] at q1 ⊢
              cases hb : firstB ns with
              | true => rw [hb] at q1; exact absurd rfl q1
              | false => exact ⟨rfl, by rw [← HRR.out, chk_first HT.out hb]⟩
            · have h1 := head_next hil h0 q1
              exact ⟨h1.1, by rw [← HRR.out, chk_all HT.out (hfb h0), nodF_err HOK.out (by rw [h1.2]; decide) hil, h1.2]⟩
          obtain ⟨hv1, rfl⟩ := hv
          rw [hv1] at HHD
          clear q1 hv1 HIN
          go_wp2_with (first
            | (go_at_call 21; refine HCK.out.mono ?_; rintro e w2 ⟨B, rfl, hb2, hB2, hf2⟩; have c0 : w2.cell? ⟨B, 0, none⟩ = some (.func (.func F1) #[.pointer (some ⟨G + 1, 0, none⟩)] #[]) := hb2.cell 0; have HB2 := Lib.hid hb2; have F22 := Lib.hid hf2; clear hb2 hf2))
          refine wp_loop_rounds 3 ?_
          rw [rounds_succ]
          go_wp2_with (first
            | ((with_reducible refine (HHD.out _ F22.out).mono ?_); rintro e w3 ⟨rfl, hf3⟩))
          go_ret
          exact ⟨rfl, (HFR.out.trans F22.out).trans hf3⟩
      · have hke : i = n := by omega
        subst hke
        have hRR : R = 0 := by rw [← HRR.out, chk_all HT.out (hfb hn0), hlen, hok]
        subst hRR
        have HFR := Lib.hid hfr
        clear hft hfr has
        go_wp2
        go_ret
        exact ⟨rfl, HFR.out⟩
end Go.Proofs.YtbfodbejdaafaaaGreatDoor
