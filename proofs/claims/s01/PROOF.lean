import PyProof.Rows.All
import KE.OsGo
import PySem.Challenge.RW_whichnote_s01_answers
set_option Elab.async false
namespace My
open Ks217
theorem p2 (n : Nat) : (4 : Nat) ^ n = 2 ^ (2 * n) := by
  rw [Nat.pow_mul]
theorem upTo_iff (r a p n : Nat) : upTo r a p (2 * (n : Int) - 139) = decide (4 ^ n * (a * p) ^ 24 ≤ r ^ 24 * 2 ^ 139) := by
  unfold upTo
  generalize hE : (a * p) ^ 24 = E
  generalize hR : r ^ 24 = R
  rw [p2]
  split
  · rename_i h
    have e : 2 * n = (2 * (n : Int) - 139).toNat + 139 := by omega
    generalize (2 * (n : Int) - 139).toNat = k at e
    rw [e, Nat.pow_add]
    have hp : 0 < 2 ^ 139 := Nat.pow_pos (by decide)
    generalize (2 : Nat) ^ 139 = P at hp
    congr 1
    rw [Nat.mul_right_comm, Nat.mul_le_mul_right_iff hp]
  · rename_i h
    have e : 139 = (-(2 * (n : Int) - 139)).toNat + 2 * n := by omega
    generalize (-(2 * (n : Int) - 139)).toNat = k at e
    have e2 : (2 : Nat) ^ 139 = 2 ^ k * 2 ^ (2 * n) := by rw [← Nat.pow_add, ← e]
    rw [e2]
    have hp : 0 < 2 ^ (2 * n) := Nat.pow_pos (by decide)
    generalize (2 : Nat) ^ (2 * n) = P at hp
    congr 1
    rw [← Nat.mul_assoc, Nat.mul_comm P E, Nat.mul_le_mul_right_iff hp]
theorem upTo_iff' (r a p n : Nat) : upTo r a p (2 * (n : Int) - 137) = decide (4 ^ (n + 1) * (a * p) ^ 24 ≤ r ^ 24 * 2 ^ 139) := by
  rw [← upTo_iff]
  congr 1
  omega
theorem note_eq (r p a : Nat) : note r p a = (List.range 128).find? fun n => decide (4 ^ n * (a * p) ^ 24 ≤ r ^ 24 * 2 ^ 139) && !decide (4 ^ (n + 1) * (a * p) ^ 24 ≤ r ^ 24 * 2 ^ 139) := by
  unfold note
  congr 1
  funext n
  rw [upTo_iff, upTo_iff']
theorem mono4 {i j : Nat} (h : i ≤ j) (E : Nat) : 4 ^ i * E ≤ 4 ^ j * E := Nat.mul_le_mul_right _ (Nat.pow_le_pow_right (by decide) h)
theorem note_low {r p a : Nat} (h : r ^ 24 * 2 ^ 139 < (a * p) ^ 24) : note r p a = none := by
  rw [note_eq, List.find?_eq_none]
  intro n _ hn
  simp only [Bool.and_eq_true, decide_eq_true_eq] at hn
  have := mono4 (Nat.zero_le n) ((a * p) ^ 24)
  generalize r ^ 24 * 2 ^ 139 = S at *
  generalize (a * p) ^ 24 = E at *
  omega
theorem note_high {r p a : Nat} (h : 4 ^ 128 * (a * p) ^ 24 ≤ r ^ 24 * 2 ^ 139) : note r p a = none := by
  rw [note_eq, List.find?_eq_none]
  intro n hm hn
  rw [List.mem_range] at hm
  simp only [Bool.and_eq_true, Bool.not_eq_true', decide_eq_false_iff_not] at hn
  have := mono4 (show n + 1 ≤ 128 by omega) ((a * p) ^ 24)
  generalize 4 ^ 128 * (a * p) ^ 24 = T at *
  generalize 4 ^ (n + 1) * (a * p) ^ 24 = U at *
  generalize r ^ 24 * 2 ^ 139 = S at *
  omega
theorem note_at {r p a k : Nat} (hk : k < 128) (h : 4 ^ k * (a * p) ^ 24 ≤ r ^ 24 * 2 ^ 139) (h2 : r ^ 24 * 2 ^ 139 < 4 ^ (k + 1) * (a * p) ^ 24) : note r p a = some k := by
  rw [note_eq, List.find?_range_eq_some]
  refine ⟨?_, List.mem_range.mpr hk, ?_⟩
  · simp only [Bool.and_eq_true, Bool.not_eq_true', decide_eq_false_iff_not, decide_eq_true_eq]
    exact ⟨h, by omega⟩
  · intro j hj
    simp only [Bool.not_eq_true', Bool.and_eq_false_iff, Bool.not_eq_false', decide_eq_true_eq]
    right
    exact Nat.le_trans (mono4 (show j + 1 ≤ k by omega) _) h
end My
namespace My
open Ks217
theorem whole_id (c : List (List Int)) : PyKs217.whole c = c := by
  unfold PyKs217.whole
  split <;> rfl
theorem wholes (cs : List (List (List Int))) : cs.map PyKs217.whole = cs := by
  induction cs with
  | nil => rfl
  | cons c cs ih => rw [List.map_cons, ih, whole_id]
def Reads (l : List Int) (cs : List (List (List Int))) : Prop := ∃ f, PyFlat.calls PyKs217.shape f l = some cs
theorem reads_nil {cs : List (List (List Int))} (h : Reads [] cs) : cs = [] := by
  obtain ⟨f, h⟩ := h
  cases f <;> exact (Option.some.inj h).symm
theorem call_rows {p : Int} {n : Nat} {r : List Int} (h : PyKs217.shape p = some (n, 0)) : PyFlat.call PyKs217.shape (p :: r) = if r.length < n then none else some ([p :: r.take n], r.drop n) := by
  simp only [PyFlat.call, h, PyFlat.rows]
inductive Peel : List Int → List (List (List Int)) → Prop
  | note (a b c : Int) (t : List Int) (cs : List (List (List Int))) : Reads t cs → Peel (0 :: a :: b :: c :: t) ([[0, a, b, c]] :: cs)
  | start (k : Int) (t : List Int) (cs : List (List (List Int))) : Reads t cs → Peel (1 :: k :: t) ([[1, k]] :: cs)
  | frame (k : Int) (t : List Int) (cs : List (List (List Int))) : Reads t cs → Peel (2 :: k :: t) ([[2, k]] :: cs)
  | fin (t : List Int) (cs : List (List (List Int))) : Reads t cs → Peel (3 :: t) ([[3]] :: cs)
theorem reads_cons {p : Int} {r : List Int} {cs : List (List (List Int))} (h : Reads (p :: r) cs) : Peel (p :: r) cs := by
  obtain ⟨f, h⟩ := h
  cases f with
  | zero => cases h
  | succ f =>
    unfold PyFlat.calls at h
    have key : ∀ n, PyKs217.shape p = some (n, 0) → n ≤ r.length ∧ ∃ cs', PyFlat.calls PyKs217.shape f (r.drop n) = some cs' ∧ cs = [p :: r.take n] :: cs' := by
      intro n hn
      rw [call_rows hn] at h
      by_cases hl : r.length < n
      · rw [if_pos hl] at h
        cases h
      · rw [if_neg hl] at h
        refine ⟨by omega, ?_⟩
        cases hc : PyFlat.calls PyKs217.shape f (r.drop n) with
        | none => simp only [hc] at h; cases h
        | some cs' =>
          simp only [hc] at h
          exact ⟨cs', rfl, (Option.some.inj h).symm⟩
    by_cases h0 : p = 0
    · subst h0
      obtain ⟨hl, cs', hc, e⟩ := key 3 rfl
      match r, hl with
      | a :: b :: c :: t, _ => subst e; exact .note a b c t cs' ⟨f, hc⟩
    by_cases h1 : p = 1
    · subst h1
      obtain ⟨hl, cs', hc, e⟩ := key 1 rfl
      match r, hl with
      | a :: t, _ => subst e; exact .start a t cs' ⟨f, hc⟩
    by_cases h2 : p = 2
    · subst h2
      obtain ⟨hl, cs', hc, e⟩ := key 1 rfl
      match r, hl with
      | a :: t, _ => subst e; exact .frame a t cs' ⟨f, hc⟩
    by_cases h3 : p = 3
    · subst h3
      obtain ⟨hl, cs', hc, e⟩ := key 0 rfl
      subst e; exact .fin r cs' ⟨f, hc⟩
    have : PyKs217.shape p = none := by
      unfold PyKs217.shape
      rw [if_neg h0, if_neg h1, if_neg h2, if_neg h3]
    simp only [PyFlat.call, this] at h
    cases h
theorem asked_reads {l : List Int} (h : PyKs217.answers_asked l = true) : ∃ cs, Reads l cs ∧ PyKs217.answers l = PyFlat.told (PyFlat.played Ks217Neutral.step Ks217Neutral.start cs) := by
  unfold PyKs217.answers_asked at h
  unfold PyKs217.answers
  unfold PyKs217.calls at *
  cases e : PyFlat.calls PyKs217.shape l.length l with
  | none => rw [e] at h; cases h
  | some cs => exact ⟨cs, ⟨_, e⟩, by simp only [wholes]⟩
-- what the program's object holds, against the specification's state
structure Like (s : Abs) (keep frames sounding since viewed vf : Int) : Prop where
  keep : keep = s.keep
  frames : frames = s.i
  sounding : sounding = s.on
  since : since = s.since
  vf : vf = s.many
  viewed : s.many ≠ 0 → viewed = s.view
  less : s.many < s.keep
  back : s.since + s.many ≤ s.i
structure Inv (script : List Int) (place : Int) (answered : List Int) (keep frames sounding since viewed vf : Int) : Prop where
  nonneg : ∀ x ∈ script, 0 ≤ x
  is : ∃ s cs, Reads (script.drop place.toNat) cs ∧ PyKs217.answers script = answered ++ PyFlat.told (PyFlat.played Ks217Neutral.step s cs) ∧ Like s keep frames sounding since viewed vf
theorem inv_start {script : List Int} (h : PyKs217.answers_asked script = true) (hn : ∀ x ∈ script, 0 ≤ x) : Inv script 0 [] 1 0 128 0 128 0 := by
  refine ⟨hn, ?_⟩
  obtain ⟨cs, hr, e⟩ := asked_reads h
  exact ⟨Ks217Neutral.start, cs, hr, e, ⟨rfl, rfl, rfl, rfl, rfl, fun h => absurd rfl h, by decide, by decide⟩⟩
theorem inv_end {script answered : List Int} {place keep frames sounding since viewed vf : Int} (h : Inv script place answered keep frames sounding since viewed vf) (hp : (script.length : Int) ≤ place) : answered = PyKs217.answers script := by
  obtain ⟨s, cs, hr, e, _⟩ := h.is
  have : script.drop place.toNat = [] := List.drop_eq_nil_of_le (by omega)
  rw [this] at hr
  rw [reads_nil hr] at e
  rw [e]
  exact (List.append_nil _).symm
end My
namespace My
open Ks217
theorem drop_getD (l : List Int) (n i : Nat) : (l.drop n).getD i 0 = l.getD (n + i) 0 := by
  simp only [List.getD_eq_getElem?_getD, List.getElem?_drop]
theorem told_cons (s : Abs) (c : List (List Int)) (cs : List (List (List Int))) :
    PyFlat.told (PyFlat.played Ks217Neutral.step s (c :: cs)) = (((Ks217Neutral.step s c).2.length : Int) :: (Ks217Neutral.step s c).2) ++ PyFlat.told (PyFlat.played Ks217Neutral.step (Ks217Neutral.step s c).1 cs) := rfl
theorem inv_of_step {script answered ans : List Int} {place' keep frames sounding since viewed vf : Int} {s s' : Abs} {c : List (List Int)} {cs : List (List (List Int))}
    (hn : ∀ x ∈ script, 0 ≤ x) (hr : Reads (script.drop place'.toNat) cs) (e : PyKs217.answers script = answered ++ PyFlat.told (PyFlat.played Ks217Neutral.step s (c :: cs)))
    (hs : Ks217Neutral.step s c = (s', ans)) (hl : Like s' keep frames sounding since viewed vf) :
    Inv script place' (answered ++ ((ans.length : Int) :: ans)) keep frames sounding since viewed vf := by
  refine ⟨hn, s', cs, hr, ?_, hl⟩
  rw [e, told_cons, hs, List.append_assoc]
def noteOf (r p a : Int) : Int := (noteAns r.toNat p.toNat a.toNat).ret
theorem note_out (r p a : Nat) : (noteAns r p a).out = [] := by
  unfold noteAns
  split
  · rfl
  · split <;> rfl
theorem step_note (s : Abs) (a b c : Int) : Ks217Neutral.step s [[0, a, b, c]] = (s, [noteOf a b c]) := by
  show (s, (noteAns a.toNat b.toNat c.toNat).ret :: Ks217Neutral.ints (noteAns a.toNat b.toNat c.toNat).out) = _
  rw [note_out]
  rfl
theorem step_start (s : Abs) (k : Int) : Ks217Neutral.step s [[1, k]] = if okKeep k.toNat then (start k.toNat, [0]) else (s, [-22]) := by
  show Ks217Neutral.sa (if okKeep k.toNat then (start k.toNat, say 0) else (s, say (-22))) = _
  split <;> rfl
def outs (t : Option Told) : List Int := match t with
  | some x => [1, (x.note : Int), (x.from_ : Int), (x.many : Int)]
  | none => [0]
theorem sa_tell (s : Abs) (t : Option Told) : Ks217Neutral.sa (s, tell t) = (s, outs t) := by
  cases t <;> rfl
theorem step_frame (s : Abs) (k : Int) : Ks217Neutral.step s [[2, k]] = if 128 < k.toNat then (s, [-22]) else ((s.frame k.toNat).1, outs (s.frame k.toNat).2) := by
  show Ks217Neutral.sa (if 128 < k.toNat then (s, say (-22)) else ((s.frame k.toNat).1, tell (s.frame k.toNat).2)) = _
  split
  · rfl
  · exact sa_tell _ _
theorem step_fin (s : Abs) : Ks217Neutral.step s [[3]] = (s.end_.1, outs s.end_.2) := sa_tell _ _
-- what the list holds at a place
inductive At (script : List Int) (place : Int) : List (List (List Int)) → Prop
  | note (cs : List (List (List Int))) : script.getD place.toNat 0 = 0 → place + 3 < script.length → Reads (script.drop (place + 4).toNat) cs → At script place ([[0, script.getD (place + 1).toNat 0, script.getD (place + 2).toNat 0, script.getD (place + 3).toNat 0]] :: cs)
  | start (cs : List (List (List Int))) : script.getD place.toNat 0 = 1 → place + 1 < script.length → Reads (script.drop (place + 2).toNat) cs → At script place ([[1, script.getD (place + 1).toNat 0]] :: cs)
  | frame (cs : List (List (List Int))) : script.getD place.toNat 0 = 2 → place + 1 < script.length → Reads (script.drop (place + 2).toNat) cs → At script place ([[2, script.getD (place + 1).toNat 0]] :: cs)
  | fin (cs : List (List (List Int))) : script.getD place.toNat 0 = 3 → Reads (script.drop (place + 1).toNat) cs → At script place ([[3]] :: cs)
theorem at_of {script : List Int} {place : Int} {cs : List (List (List Int))} (h : Reads (script.drop place.toNat) cs) (h0 : 0 ≤ place) (h1 : place < script.length) : At script place cs := by
  have g : ∀ i : Nat, script.getD (place + i).toNat 0 = (script.drop place.toNat).getD i 0 := by
    intro i
    rw [drop_getD]
    congr 1
    omega
  have g0 : script.getD place.toNat 0 = (script.drop place.toNat).getD 0 0 := by rw [drop_getD]; rfl
  have d : ∀ i : Nat, script.drop (place + i).toNat = (script.drop place.toNat).drop i := by
    intro i
    rw [List.drop_drop]
    congr 1
    omega
  have len : (script.drop place.toNat).length + place.toNat = script.length := by
    rw [List.length_drop]; omega
  generalize hl : script.drop place.toNat = l at *
  cases l with
  | nil => simp only [List.length_nil] at len; omega
  | cons p r =>
    have g1 := g 1
    have g2 := g 2
    have g3 := g 3
    have d1 := d 1
    have d2 := d 2
    have d4 := d 4
    have P := reads_cons h
    generalize hpr : p :: r = pr at *
    cases P with
    | note a b c t cs hr =>
      have e1 : script.getD (place + 1).toNat 0 = a := g1
      have e2 : script.getD (place + 2).toNat 0 = b := g2
      have e3 : script.getD (place + 3).toNat 0 = c := g3
      rw [← e1, ← e2, ← e3]
      refine .note cs g0 (by simp only [List.length_cons] at len; omega) ?_
      have e4 : script.drop (place + 4).toNat = t := d4
      rw [e4]; exact hr
    | start k t cs hr =>
      have e1 : script.getD (place + 1).toNat 0 = k := g1
      rw [← e1]
      refine .start cs g0 (by simp only [List.length_cons] at len; omega) ?_
      have e4 : script.drop (place + 2).toNat = t := d2
      rw [e4]; exact hr
    | frame k t cs hr =>
      have e1 : script.getD (place + 1).toNat 0 = k := g1
      rw [← e1]
      refine .frame cs g0 (by simp only [List.length_cons] at len; omega) ?_
      have e4 : script.drop (place + 2).toNat = t := d2
      rw [e4]; exact hr
    | fin t cs hr =>
      refine .fin cs g0 ?_
      have e4 : script.drop (place + 1).toNat = t := d1
      rw [e4]; exact hr
theorem item_nonneg {l : List Int} (h : ∀ x ∈ l, 0 ≤ x) (n : Nat) : 0 ≤ l.getD n 0 := by
  rw [List.getD_eq_getElem?_getD]
  cases e : l[n]? with
  | none => exact Int.le_refl 0
  | some x => exact h x (List.mem_of_getElem? e)
def Opens (script : List Int) (place : Int) : Prop :=
  place < (script.length : Int) → (script.getD place.toNat 0 = 0 ∧ place + 3 < (script.length : Int)) ∨ (script.getD place.toNat 0 = 1 ∧ place + 1 < (script.length : Int)) ∨ (script.getD place.toNat 0 = 2 ∧ place + 1 < (script.length : Int)) ∨ script.getD place.toNat 0 = 3
theorem opens {script answered : List Int} {place keep frames sounding since viewed vf : Int} (h : Inv script place answered keep frames sounding since viewed vf) (hp : 0 ≤ place) : Opens script place := by
  intro hl
  obtain ⟨s, cs0, hr0, e, _⟩ := h.is
  have A := at_of hr0 hp hl
  cases A with
  | note _ a b => exact .inl ⟨a, b⟩
  | start _ a b => exact .inr (.inl ⟨a, b⟩)
  | frame _ a b => exact .inr (.inr (.inl ⟨a, b⟩))
  | fin _ a => exact .inr (.inr (.inr a))
section turns
variable {script answered : List Int} {place keep frames sounding since viewed vf : Int}
theorem t_note (h : Inv script place answered keep frames sounding since viewed vf) (hp : 0 ≤ place) (hl : place < script.length) (hx : script.getD place.toNat 0 = 0) :
    Inv script (place + 4) (answered ++ [1, noteOf (script.getD (place + 1).toNat 0) (script.getD (place + 2).toNat 0) (script.getD (place + 3).toNat 0)]) keep frames sounding since viewed vf := by
  obtain ⟨s, cs0, hr0, e, L⟩ := h.is
  have A := at_of hr0 hp hl
  cases A with
  | note cs _ b hr => exact inv_of_step h.nonneg hr e (step_note _ _ _ _) L
  | start _ a b => omega
  | frame _ a b => omega
  | fin _ a => omega
theorem t_start (h : Inv script place answered keep frames sounding since viewed vf) (hp : 0 ≤ place) (hl : place < script.length) (hx : script.getD place.toNat 0 = 1)
    (h1 : 1 ≤ script.getD (place + 1).toNat 0) (h2 : script.getD (place + 1).toNat 0 ≤ 100) :
    Inv script (place + 2) (answered ++ [1, 0]) (script.getD (place + 1).toNat 0) 0 128 0 viewed 0 := by
  obtain ⟨s, cs0, hr0, e, L⟩ := h.is
  have A := at_of hr0 hp hl
  cases A with
  | note cs a b hr => omega
  | start cs a b hr =>
    refine inv_of_step h.nonneg hr e (s' := start (script.getD (place + 1).toNat 0).toNat) (ans := [0]) ?_ ?_
    · rw [step_start, if_pos]
      unfold okKeep
      simp only [Bool.and_eq_true, decide_eq_true_eq]
      omega
    · exact ⟨by show _ = ((script.getD (place + 1).toNat 0).toNat : Int); omega, rfl, rfl, rfl, rfl, fun h => absurd rfl h, by show 0 < (script.getD (place + 1).toNat 0).toNat; omega, by show 0 + 0 ≤ 0; omega⟩
  | frame _ a b => omega
  | fin _ a => omega
theorem t_start_no (h : Inv script place answered keep frames sounding since viewed vf) (hp : 0 ≤ place) (hl : place < script.length) (hx : script.getD place.toNat 0 = 1)
    (h1 : script.getD (place + 1).toNat 0 < 1 ∨ 100 < script.getD (place + 1).toNat 0) :
    Inv script (place + 2) (answered ++ [1, -22]) keep frames sounding since viewed vf := by
  obtain ⟨s, cs0, hr0, e, L⟩ := h.is
  have A := at_of hr0 hp hl
  cases A with
  | note cs a b hr => omega
  | start cs a b hr =>
    refine inv_of_step h.nonneg hr e (s' := s) (ans := [-22]) ?_ L
    rw [step_start, if_neg]
    unfold okKeep
    simp only [Bool.and_eq_true, decide_eq_true_eq]
    omega
  | frame _ a b => omega
  | fin _ a => omega
theorem t_frame_no (h : Inv script place answered keep frames sounding since viewed vf) (hp : 0 ≤ place) (hl : place < script.length) (hx : script.getD place.toNat 0 = 2)
    (h1 : 128 < script.getD (place + 1).toNat 0) :
    Inv script (place + 2) (answered ++ [1, -22]) keep frames sounding since viewed vf := by
  obtain ⟨s, cs0, hr0, e, L⟩ := h.is
  have A := at_of hr0 hp hl
  cases A with
  | note cs a b hr => omega
  | start cs a b hr => omega
  | frame cs a b hr =>
    refine inv_of_step h.nonneg hr e (s' := s) (ans := [-22]) ?_ L
    rw [step_frame, if_pos]
    omega
  | fin _ a => omega
-- what is on ends ahead of a frame
def endsBy (sounding since frame : Int) : List Int := if sounding = 128 then [0] else [1, sounding, since, frame - since]
theorem outs_ended {s : Abs} {frame : Nat} (h : s.since ≤ frame) : outs (ended s frame) = endsBy s.on s.since frame := by
  unfold ended endsBy NOTHING
  by_cases h0 : s.on = 128
  · rw [if_pos h0, if_pos (by omega)]; rfl
  · rw [if_neg h0, if_neg (by omega)]
    show [1, (s.on : Int), (s.since : Int), ((frame - s.since : Nat) : Int)] = _
    congr 4
    omega
theorem frame_gen (h : Inv script place answered keep frames sounding since viewed vf) (hp : 0 ≤ place) (hl : place < script.length) (hx : script.getD place.toNat 0 = 2)
    (h1 : script.getD (place + 1).toNat 0 ≤ 128) {ans : List Int} {keep' frames' sounding' since' viewed' vf' : Int}
    (H : ∀ (s : Abs) (n : Nat), script.getD (place + 1).toNat 0 = n → Like s keep frames sounding since viewed vf → outs (s.frame n).2 = ans ∧ Like (s.frame n).1 keep' frames' sounding' since' viewed' vf') :
    Inv script (place + 2) (answered ++ ((ans.length : Int) :: ans)) keep' frames' sounding' since' viewed' vf' := by
  obtain ⟨s, cs0, hr0, e, L⟩ := h.is
  have A := at_of hr0 hp hl
  cases A with
  | note cs a b hr => omega
  | start cs a b hr => omega
  | frame cs a b hr =>
    have nn := item_nonneg h.nonneg (place + 1).toNat
    obtain ⟨h2, h3⟩ := H s (script.getD (place + 1).toNat 0).toNat (by omega) L
    refine inv_of_step h.nonneg hr e ?_ h3
    rw [step_frame, if_neg (by omega), h2]
  | fin _ a => omega
theorem t_frame_on (h : Inv script place answered keep frames sounding since viewed vf) (hp : 0 ≤ place) (hl : place < script.length) (hx : script.getD place.toNat 0 = 2)
    (h1 : script.getD (place + 1).toNat 0 ≤ 128) (h2 : script.getD (place + 1).toNat 0 = sounding) :
    Inv script (place + 2) (answered ++ [1, 0]) keep (frames + 1) sounding since viewed 0 := by
  refine frame_gen h hp hl hx h1 (ans := [0]) ?_
  intro s n hn L
  obtain ⟨e1, e2, e3, e4, e5, e6, e7, e8⟩ := L
  have c : n = s.on := by omega
  unfold Abs.frame
  rw [if_pos c]
  exact ⟨rfl, ⟨e1, by show _ = ((s.i + 1 : Nat) : Int); omega, e3, e4, rfl, fun h => absurd rfl h, by show 0 < s.keep; omega, by show s.since + 0 ≤ s.i + 1; omega⟩⟩
theorem t_frame_more (h : Inv script place answered keep frames sounding since viewed vf) (hp : 0 ≤ place) (hl : place < script.length) (hx : script.getD place.toNat 0 = 2)
    (h1 : script.getD (place + 1).toNat 0 ≤ 128) (h2 : ¬ script.getD (place + 1).toNat 0 = sounding) (h3 : script.getD (place + 1).toNat 0 = viewed) (h4 : vf + 1 < keep) :
    Inv script (place + 2) (answered ++ [1, 0]) keep (frames + 1) sounding since viewed (vf + 1) := by
  refine frame_gen h hp hl hx h1 (ans := [0]) ?_
  intro s n hn L
  obtain ⟨e1, e2, e3, e4, e5, e6, e7, e8⟩ := L
  have c : ¬ n = s.on := by omega
  have m : (if s.many ≠ 0 ∧ n = s.view then s.many + 1 else 1) = s.many + 1 := by
    split
    · rfl
    · rename_i h0
      by_cases hm : s.many = 0
      · omega
      · have := e6 hm
        exact absurd ⟨hm, by omega⟩ h0
  unfold Abs.frame
  rw [if_neg c]
  simp only [m]
  rw [if_neg (by omega)]
  exact ⟨rfl, ⟨e1, by show _ = ((s.i + 1 : Nat) : Int); omega, e3, e4, by show _ = ((s.many + 1 : Nat) : Int); omega, fun _ => by show viewed = (n : Int); omega, by show s.many + 1 < s.keep; omega, by show s.since + (s.many + 1) ≤ s.i + 1; omega⟩⟩
theorem t_frame_new (h : Inv script place answered keep frames sounding since viewed vf) (hp : 0 ≤ place) (hl : place < script.length) (hx : script.getD place.toNat 0 = 2)
    (h1 : script.getD (place + 1).toNat 0 ≤ 128) (h2 : ¬ script.getD (place + 1).toNat 0 = sounding) (h3 : ¬ script.getD (place + 1).toNat 0 = viewed) (h4 : 1 < keep) :
    Inv script (place + 2) (answered ++ [1, 0]) keep (frames + 1) sounding since (script.getD (place + 1).toNat 0) 1 := by
  refine frame_gen h hp hl hx h1 (ans := [0]) ?_
  intro s n hn L
  obtain ⟨e1, e2, e3, e4, e5, e6, e7, e8⟩ := L
  have c : ¬ n = s.on := by omega
  have m : (if s.many ≠ 0 ∧ n = s.view then s.many + 1 else 1) = 1 := by
    split
    · rename_i h0
      have := e6 h0.1
      omega
    · rfl
  unfold Abs.frame
  rw [if_neg c]
  simp only [m]
  rw [if_neg (by omega)]
  exact ⟨rfl, ⟨e1, by show _ = ((s.i + 1 : Nat) : Int); omega, e3, e4, rfl, fun _ => hn, by show 1 < s.keep; omega, by show s.since + 1 ≤ s.i + 1; omega⟩⟩
theorem t_frame_more_turn (h : Inv script place answered keep frames sounding since viewed vf) (hp : 0 ≤ place) (hl : place < script.length) (hx : script.getD place.toNat 0 = 2)
    (h1 : script.getD (place + 1).toNat 0 ≤ 128) (h2 : ¬ script.getD (place + 1).toNat 0 = sounding) (h3 : script.getD (place + 1).toNat 0 = viewed) (h4 : ¬ vf + 1 < keep) :
    Inv script (place + 2) (answered ++ (((endsBy sounding since (frames + 1 - keep)).length : Int) :: endsBy sounding since (frames + 1 - keep))) keep (frames + 1) (script.getD (place + 1).toNat 0) (frames + 1 - keep) viewed 0 := by
  refine frame_gen h hp hl hx h1 ?_
  intro s n hn L
  obtain ⟨e1, e2, e3, e4, e5, e6, e7, e8⟩ := L
  have c : ¬ n = s.on := by omega
  have m : (if s.many ≠ 0 ∧ n = s.view then s.many + 1 else 1) = s.many + 1 := by
    split
    · rfl
    · rename_i h0
      by_cases hm : s.many = 0
      · omega
      · have := e6 hm
        exact absurd ⟨hm, by omega⟩ h0
  unfold Abs.frame
  rw [if_neg c]
  simp only [m]
  rw [if_pos (by omega)]
  refine ⟨?_, ⟨e1, by show _ = ((s.i + 1 : Nat) : Int); omega, hn, by show _ = ((s.i + 1 - (s.many + 1) : Nat) : Int); omega, rfl, fun h => absurd rfl h, by show 0 < s.keep; omega, by show s.i + 1 - (s.many + 1) + 0 ≤ s.i + 1; omega⟩⟩
  rw [outs_ended (by omega), ← e3, ← e4]
  congr 1
  omega
theorem t_frame_new_turn (h : Inv script place answered keep frames sounding since viewed vf) (hp : 0 ≤ place) (hl : place < script.length) (hx : script.getD place.toNat 0 = 2)
    (h1 : script.getD (place + 1).toNat 0 ≤ 128) (h2 : ¬ script.getD (place + 1).toNat 0 = sounding) (h3 : ¬ script.getD (place + 1).toNat 0 = viewed) (h4 : ¬ 1 < keep) :
    Inv script (place + 2) (answered ++ (((endsBy sounding since (frames + 1 - keep)).length : Int) :: endsBy sounding since (frames + 1 - keep))) keep (frames + 1) (script.getD (place + 1).toNat 0) (frames + 1 - keep) (script.getD (place + 1).toNat 0) 0 := by
  refine frame_gen h hp hl hx h1 ?_
  intro s n hn L
  obtain ⟨e1, e2, e3, e4, e5, e6, e7, e8⟩ := L
  have c : ¬ n = s.on := by omega
  have m : (if s.many ≠ 0 ∧ n = s.view then s.many + 1 else 1) = 1 := by
    split
    · rename_i h0
      have := e6 h0.1
      omega
    · rfl
  unfold Abs.frame
  rw [if_neg c]
  simp only [m]
  rw [if_pos (by omega)]
  refine ⟨?_, ⟨e1, by show _ = ((s.i + 1 : Nat) : Int); omega, hn, by show _ = ((s.i + 1 - 1 : Nat) : Int); omega, rfl, fun h => absurd rfl h, by show 0 < s.keep; omega, by show s.i + 1 - 1 + 0 ≤ s.i + 1; omega⟩⟩
  rw [outs_ended (by omega), ← e3, ← e4]
  congr 1
  omega
theorem t_fin (h : Inv script place answered keep frames sounding since viewed vf) (hp : 0 ≤ place) (hl : place < script.length) (hx : ¬ script.getD place.toNat 0 = 0) (hx1 : ¬ script.getD place.toNat 0 = 1) (hx2 : ¬ script.getD place.toNat 0 = 2) :
    Inv script (place + 1) (answered ++ (((endsBy sounding since frames).length : Int) :: endsBy sounding since frames)) keep frames 128 frames viewed 0 := by
  obtain ⟨s, cs0, hr0, e, L⟩ := h.is
  have A := at_of hr0 hp hl
  cases A with
  | note cs a b hr => omega
  | start cs a b hr => omega
  | frame cs a b hr => omega
  | fin cs a hr =>
    obtain ⟨e1, e2, e3, e4, e5, e6, e7, e8⟩ := L
    refine inv_of_step h.nonneg hr e (s' := s.end_.1) ?_ ⟨e1, e2, rfl, e2, rfl, fun h => absurd rfl h, by show 0 < s.keep; omega, by show s.i + 0 ≤ s.i; omega⟩
    rw [step_fin]
    congr 1
    show outs (ended s s.i) = _
    rw [outs_ended (by omega), ← e3, ← e4, ← e2]
end turns
end My
namespace My
open Ks217
-- the note's mathematics over Int, as the program reckons
abbrev soundOf (r : Int) : Int := r ^ 24 * 2 ^ 64 * 2 ^ 64 * 2 ^ 11
abbrev edgeOf (p a : Int) : Int := (a * p) ^ 24
structure Edge (sound e0 : Int) (pre : List Int) (edge : Int) : Prop where
  is : edge = e0 * 4 ^ pre.length
  le : edge ≤ sound
theorem edge_start {sound e0 : Int} (h : ¬ sound < e0) : Edge sound e0 [] e0 := ⟨by simp, by omega⟩
theorem edge_turn {sound e0 edge k : Int} {pre : List Int} (h : Edge sound e0 pre edge) (h2 : ¬ sound < edge * 4) : Edge sound e0 (pre ++ [k]) (edge * 4) := by
  refine ⟨?_, by omega⟩
  rw [h.is, List.length_append, List.length_singleton, Int.pow_succ, Int.mul_assoc]
theorem noteOf_no {r p a : Int} (h : r < 1000 ∨ 1000000 < r ∨ p < 1 ∨ 65535 < p ∨ a < 20 ∨ 20000 < a) : -22 = noteOf r p a := by
  unfold noteOf noteAns
  rw [if_pos]
  · rfl
  · unfold okNote
    simp only [Bool.and_eq_false_iff, decide_eq_false_iff_not]
    omega
theorem noteOf_some {R P A k : Nat} (h : note R P A = some k) (ok : okNote R P A = true) : (k : Int) = noteOf R P A := by
  unfold noteOf noteAns
  simp only [Int.toNat_natCast]
  rw [if_neg (by rw [ok]; decide), h]
  rfl
theorem noteOf_none {R P A : Nat} (h : note R P A = none) (ok : okNote R P A = true) : -2 = noteOf R P A := by
  unfold noteOf noteAns
  simp only [Int.toNat_natCast]
  rw [if_neg (by rw [ok]; decide), h]
  rfl
theorem soundN (R : Nat) : soundOf R = ((R ^ 24 * 2 ^ 139 : Nat) : Int) := by
  have e : (2 : Nat) ^ 139 = 2 ^ 64 * 2 ^ 64 * 2 ^ 11 := by decide
  rw [e]
  unfold soundOf
  simp only [Int.natCast_mul, Int.natCast_pow, Int.mul_assoc]
  rfl
theorem edgeN (P A k : Nat) : edgeOf P A * 4 ^ k = ((4 ^ k * (A * P) ^ 24 : Nat) : Int) := by
  unfold edgeOf
  simp only [Int.natCast_mul, Int.natCast_pow]
  rw [Int.mul_comm]
  rfl
structure Fit (r p a : Int) : Prop where
  r0 : 1000 ≤ r
  r1 : r ≤ 1000000
  p0 : 1 ≤ p
  p1 : p ≤ 65535
  a0 : 20 ≤ a
  a1 : a ≤ 20000
theorem Fit.nats {r p a : Int} (h : Fit r p a) : ∃ R P A : Nat, r = R ∧ p = P ∧ a = A ∧ okNote R P A = true := by
  obtain ⟨h1, h2, h3, h4, h5, h6⟩ := h
  refine ⟨r.toNat, p.toNat, a.toNat, by omega, by omega, by omega, ?_⟩
  unfold okNote
  simp only [Bool.and_eq_true, decide_eq_true_eq]
  omega
theorem out_low {r p a : Int} (F : Fit r p a) (h : soundOf r < edgeOf p a) : -2 = noteOf r p a := by
  obtain ⟨R, P, A, rfl, rfl, rfl, ok⟩ := F.nats
  refine noteOf_none (note_low ?_) ok
  have e := edgeN P A 0
  rw [Int.pow_zero, Int.mul_one, Nat.pow_zero, Nat.one_mul] at e
  rw [soundN, e] at h
  exact Int.ofNat_lt.mp h
theorem out_hit {r p a edge k : Int} {pre : List Int} (E : Edge (soundOf r) (edgeOf p a) pre edge) (F : Fit r p a) (h : soundOf r < edge * 4) (hl : pre.length < 128) (hk : k = pre.length) : k = noteOf r p a := by
  obtain ⟨R, P, A, rfl, rfl, rfl, ok⟩ := F.nats
  obtain ⟨e1, e2⟩ := E
  rw [hk]
  refine noteOf_some (note_at hl ?_ ?_) ok
  · rw [e1, edgeN, soundN] at e2
    exact Int.ofNat_le.mp e2
  · rw [e1, Int.mul_assoc, ← Int.pow_succ, edgeN, soundN] at h
    exact Int.ofNat_lt.mp h
theorem out_high {r p a edge : Int} {pre : List Int} (E : Edge (soundOf r) (edgeOf p a) pre edge) (F : Fit r p a) (hl : pre.length = 128) : -2 = noteOf r p a := by
  obtain ⟨R, P, A, rfl, rfl, rfl, ok⟩ := F.nats
  obtain ⟨e1, e2⟩ := E
  refine noteOf_none (note_high ?_) ok
  rw [e1, edgeN, soundN, hl] at e2
  exact Int.ofNat_le.mp e2
end My
namespace My
open Ks217
section words
variable {script answered : List Int} {place keep frames sounding since viewed vf : Int}
abbrev nx (script : List Int) (place : Int) : Int := place + [4, 2, 2, 1].getD (script.getD place.toNat 0).toNat 0
abbrev Word (script : List Int) (place : Int) (answered : List Int) (keep frames sounding since viewed vf : Int) : Prop :=
  0 ≤ place ∧ place ≤ (script.length : Int) ∧ (script.length : Int) ≤ 30000 ∧ (answered.length : Int) ≤ 5 * place ∧ 1 ≤ keep ∧
  (place < (script.length : Int) → (script.getD place.toNat 0 = 0 ∧ place + 3 < (script.length : Int)) ∨ (script.getD place.toNat 0 = 1 ∧ place + 1 < (script.length : Int)) ∨ (script.getD place.toNat 0 = 2 ∧ place + 1 < (script.length : Int)) ∨ script.getD place.toNat 0 = 3) ∧
  Inv script place answered keep frames sounding since viewed vf
theorem word_of (h : Inv script place answered keep frames sounding since viewed vf) (hp : 0 ≤ place) (hl : place ≤ script.length) (ha : (answered.length : Int) ≤ 5 * place) (hk : 1 ≤ keep) (hm : (script.length : Int) ≤ 30000) : Word script place answered keep frames sounding since viewed vf :=
  ⟨hp, hl, hm, ha, hk, opens h hp, h⟩
theorem nx0 (h : script.getD place.toNat 0 = 0) : nx script place = place + 4 := by unfold nx; rw [h]; rfl
theorem nx1 (h : script.getD place.toNat 0 = 1) : nx script place = place + 2 := by unfold nx; rw [h]; rfl
theorem nx2 (h : script.getD place.toNat 0 = 2) : nx script place = place + 2 := by unfold nx; rw [h]; rfl
theorem nx3 (h : script.getD place.toNat 0 = 3) : nx script place = place + 1 := by unfold nx; rw [h]; rfl
theorem app1 (l : List Int) (a : Int) : l ++ [1] ++ [a] = l ++ [1, a] := by rw [List.append_assoc]; rfl
theorem app4 (l : List Int) (a b c d : Int) : l ++ [4] ++ [a] ++ [b] ++ [c] ++ [d] = l ++ [4, a, b, c, d] := by simp only [List.append_assoc]; rfl
theorem ends_no (h : sounding = 128) (since f : Int) : endsBy sounding since f = [0] := if_pos h
theorem ends_some (h : sounding ≠ 128) (since f : Int) : endsBy sounding since f = [1, sounding, since, f - since] := if_neg h
theorem w_note (h : Inv script place answered keep frames sounding since viewed vf) (hp : 0 ≤ place) (hl : place < script.length) (hm : (script.length : Int) ≤ 30000) (ha : (answered.length : Int) ≤ 5 * place) (hk : 1 ≤ keep) (hx : script.getD place.toNat 0 = 0) :
    Word script (nx script place) (answered ++ [1] ++ [noteOf (script.getD (place + 1).toNat 0) (script.getD (place + 2).toNat 0) (script.getD (place + 3).toNat 0)]) keep frames sounding since viewed vf := by
  have o := opens h hp hl
  rw [nx0 hx, app1]
  exact word_of (t_note h hp hl hx) (by omega) (by omega) (by simp only [List.length_append, List.length_cons, List.length_nil]; omega) hk hm
theorem w_noteV {v : Int} (hv : v = noteOf (script.getD (place + 1).toNat 0) (script.getD (place + 2).toNat 0) (script.getD (place + 3).toNat 0)) (h : Inv script place answered keep frames sounding since viewed vf) (hp : 0 ≤ place) (hl : place < script.length) (hm : (script.length : Int) ≤ 30000) (ha : (answered.length : Int) ≤ 5 * place) (hk : 1 ≤ keep) (hx : script.getD place.toNat 0 = 0) :
    Word script (nx script place) (answered ++ [1] ++ [v]) keep frames sounding since viewed vf := by
  rw [hv]
  exact w_note h hp hl hm ha hk hx
theorem w_start (h : Inv script place answered keep frames sounding since viewed vf) (hp : 0 ≤ place) (hl : place < script.length) (hm : (script.length : Int) ≤ 30000) (ha : (answered.length : Int) ≤ 5 * place) (hx : script.getD place.toNat 0 = 1)
    (h1 : 1 ≤ script.getD (place + 1).toNat 0) (h2 : script.getD (place + 1).toNat 0 ≤ 100) :
    Word script (nx script place) (answered ++ [1] ++ [0]) (script.getD (place + 1).toNat 0) 0 128 0 viewed 0 := by
  have o := opens h hp hl
  rw [nx1 hx, app1]
  exact word_of (t_start h hp hl hx h1 h2) (by omega) (by omega) (by simp only [List.length_append, List.length_cons, List.length_nil]; omega) h1 hm
theorem w_no (h : Inv script place answered keep frames sounding since viewed vf) (hp : 0 ≤ place) (hl : place < script.length) (hm : (script.length : Int) ≤ 30000) (ha : (answered.length : Int) ≤ 5 * place) (hk : 1 ≤ keep)
    (hx : (script.getD place.toNat 0 = 1 ∧ (script.getD (place + 1).toNat 0 < 1 ∨ 100 < script.getD (place + 1).toNat 0)) ∨ (script.getD place.toNat 0 = 2 ∧ 128 < script.getD (place + 1).toNat 0)) :
    Word script (nx script place) (answered ++ [1] ++ [-22]) keep frames sounding since viewed vf := by
  have o := opens h hp hl
  rw [app1]
  rcases hx with ⟨hx, h1⟩ | ⟨hx, h1⟩
  · rw [nx1 hx]
    exact word_of (t_start_no h hp hl hx h1) (by omega) (by omega) (by simp only [List.length_append, List.length_cons, List.length_nil]; omega) hk hm
  · rw [nx2 hx]
    exact word_of (t_frame_no h hp hl hx h1) (by omega) (by omega) (by simp only [List.length_append, List.length_cons, List.length_nil]; omega) hk hm
theorem w_same (h : Inv script place answered keep frames sounding since viewed vf) (hp : 0 ≤ place) (hl : place < script.length) (hm : (script.length : Int) ≤ 30000) (ha : (answered.length : Int) ≤ 5 * place) (hk : 1 ≤ keep) (hx : script.getD place.toNat 0 = 2)
    (h1 : script.getD (place + 1).toNat 0 ≤ 128) (h2 : script.getD (place + 1).toNat 0 = sounding) :
    Word script (nx script place) (answered ++ [1] ++ [0]) keep (frames + 1) sounding since viewed 0 := by
  have o := opens h hp hl
  rw [nx2 hx, app1]
  exact word_of (t_frame_on h hp hl hx h1 h2) (by omega) (by omega) (by simp only [List.length_append, List.length_cons, List.length_nil]; omega) hk hm
theorem w_more (h : Inv script place answered keep frames sounding since viewed vf) (hp : 0 ≤ place) (hl : place < script.length) (hm : (script.length : Int) ≤ 30000) (ha : (answered.length : Int) ≤ 5 * place) (hk : 1 ≤ keep) (hx : script.getD place.toNat 0 = 2)
    (h1 : script.getD (place + 1).toNat 0 ≤ 128) (h2 : ¬ script.getD (place + 1).toNat 0 = sounding) (h3 : script.getD (place + 1).toNat 0 = viewed) (h4 : vf + 1 < keep) :
    Word script (nx script place) (answered ++ [1] ++ [0]) keep (frames + 1) sounding since viewed (vf + 1) := by
  have o := opens h hp hl
  rw [nx2 hx, app1]
  exact word_of (t_frame_more h hp hl hx h1 h2 h3 h4) (by omega) (by omega) (by simp only [List.length_append, List.length_cons, List.length_nil]; omega) hk hm
theorem w_new (h : Inv script place answered keep frames sounding since viewed vf) (hp : 0 ≤ place) (hl : place < script.length) (hm : (script.length : Int) ≤ 30000) (ha : (answered.length : Int) ≤ 5 * place) (hk : 1 ≤ keep) (hx : script.getD place.toNat 0 = 2)
    (h1 : script.getD (place + 1).toNat 0 ≤ 128) (h2 : ¬ script.getD (place + 1).toNat 0 = sounding) (h3 : ¬ script.getD (place + 1).toNat 0 = viewed) (h4 : 1 < keep) :
    Word script (nx script place) (answered ++ [1] ++ [0]) keep (frames + 1) sounding since (script.getD (place + 1).toNat 0) 1 := by
  have o := opens h hp hl
  rw [nx2 hx, app1]
  exact word_of (t_frame_new h hp hl hx h1 h2 h3 h4) (by omega) (by omega) (by simp only [List.length_append, List.length_cons, List.length_nil]; omega) hk hm
theorem w_more0 (h : Inv script place answered keep frames sounding since viewed vf) (hp : 0 ≤ place) (hl : place < script.length) (hm : (script.length : Int) ≤ 30000) (ha : (answered.length : Int) ≤ 5 * place) (hk : 1 ≤ keep) (hx : script.getD place.toNat 0 = 2)
    (h1 : script.getD (place + 1).toNat 0 ≤ 128) (h2 : ¬ script.getD (place + 1).toNat 0 = sounding) (h3 : script.getD (place + 1).toNat 0 = viewed) (h4 : ¬ vf + 1 < keep) (h5 : sounding = 128) :
    Word script (nx script place) (answered ++ [1] ++ [0]) keep (frames + 1) (script.getD (place + 1).toNat 0) (frames + 1 - keep) viewed 0 := by
  have o := opens h hp hl
  have t := t_frame_more_turn h hp hl hx h1 h2 h3 h4
  rw [ends_no h5] at t
  rw [nx2 hx, app1]
  exact word_of t (by omega) (by omega) (by simp only [List.length_append, List.length_cons, List.length_nil]; omega) hk hm
theorem w_more4 (h : Inv script place answered keep frames sounding since viewed vf) (hp : 0 ≤ place) (hl : place < script.length) (hm : (script.length : Int) ≤ 30000) (ha : (answered.length : Int) ≤ 5 * place) (hk : 1 ≤ keep) (hx : script.getD place.toNat 0 = 2)
    (h1 : script.getD (place + 1).toNat 0 ≤ 128) (h2 : ¬ script.getD (place + 1).toNat 0 = sounding) (h3 : script.getD (place + 1).toNat 0 = viewed) (h4 : ¬ vf + 1 < keep) (h5 : sounding ≠ 128) :
    Word script (nx script place) (answered ++ [4] ++ [1] ++ [sounding] ++ [since] ++ [frames + 1 - keep - since]) keep (frames + 1) (script.getD (place + 1).toNat 0) (frames + 1 - keep) viewed 0 := by
  have o := opens h hp hl
  have t := t_frame_more_turn h hp hl hx h1 h2 h3 h4
  rw [ends_some h5] at t
  rw [nx2 hx, app4]
  exact word_of t (by omega) (by omega) (by simp only [List.length_append, List.length_cons, List.length_nil]; omega) hk hm
theorem w_new0 (h : Inv script place answered keep frames sounding since viewed vf) (hp : 0 ≤ place) (hl : place < script.length) (hm : (script.length : Int) ≤ 30000) (ha : (answered.length : Int) ≤ 5 * place) (hk : 1 ≤ keep) (hx : script.getD place.toNat 0 = 2)
    (h1 : script.getD (place + 1).toNat 0 ≤ 128) (h2 : ¬ script.getD (place + 1).toNat 0 = sounding) (h3 : ¬ script.getD (place + 1).toNat 0 = viewed) (h4 : ¬ 1 < keep) (h5 : sounding = 128) :
    Word script (nx script place) (answered ++ [1] ++ [0]) keep (frames + 1) (script.getD (place + 1).toNat 0) (frames + 1 - keep) (script.getD (place + 1).toNat 0) 0 := by
  have o := opens h hp hl
  have t := t_frame_new_turn h hp hl hx h1 h2 h3 h4
  rw [ends_no h5] at t
  rw [nx2 hx, app1]
  exact word_of t (by omega) (by omega) (by simp only [List.length_append, List.length_cons, List.length_nil]; omega) hk hm
theorem w_new4 (h : Inv script place answered keep frames sounding since viewed vf) (hp : 0 ≤ place) (hl : place < script.length) (hm : (script.length : Int) ≤ 30000) (ha : (answered.length : Int) ≤ 5 * place) (hk : 1 ≤ keep) (hx : script.getD place.toNat 0 = 2)
    (h1 : script.getD (place + 1).toNat 0 ≤ 128) (h2 : ¬ script.getD (place + 1).toNat 0 = sounding) (h3 : ¬ script.getD (place + 1).toNat 0 = viewed) (h4 : ¬ 1 < keep) (h5 : sounding ≠ 128) :
    Word script (nx script place) (answered ++ [4] ++ [1] ++ [sounding] ++ [since] ++ [frames + 1 - keep - since]) keep (frames + 1) (script.getD (place + 1).toNat 0) (frames + 1 - keep) (script.getD (place + 1).toNat 0) 0 := by
  have o := opens h hp hl
  have t := t_frame_new_turn h hp hl hx h1 h2 h3 h4
  rw [ends_some h5] at t
  rw [nx2 hx, app4]
  exact word_of t (by omega) (by omega) (by simp only [List.length_append, List.length_cons, List.length_nil]; omega) hk hm
theorem w_fin0 (h : Inv script place answered keep frames sounding since viewed vf) (hp : 0 ≤ place) (hl : place < script.length) (hm : (script.length : Int) ≤ 30000) (ha : (answered.length : Int) ≤ 5 * place) (hk : 1 ≤ keep) (hx : script.getD place.toNat 0 = 3) (h5 : sounding = 128) :
    Word script (nx script place) (answered ++ [1] ++ [0]) keep frames 128 frames viewed 0 := by
  have t := t_fin h hp hl (by omega) (by omega) (by omega)
  rw [ends_no h5] at t
  rw [nx3 hx, app1]
  exact word_of t (by omega) (by omega) (by simp only [List.length_append, List.length_cons, List.length_nil]; omega) hk hm
theorem w_fin4 (h : Inv script place answered keep frames sounding since viewed vf) (hp : 0 ≤ place) (hl : place < script.length) (hm : (script.length : Int) ≤ 30000) (ha : (answered.length : Int) ≤ 5 * place) (hk : 1 ≤ keep) (hx : script.getD place.toNat 0 = 3) (h5 : sounding ≠ 128) :
    Word script (nx script place) (answered ++ [4] ++ [1] ++ [sounding] ++ [since] ++ [frames - since]) keep frames 128 frames viewed 0 := by
  have t := t_fin h hp hl (by omega) (by omega) (by omega)
  rw [ends_some h5] at t
  rw [nx3 hx, app4]
  exact word_of t (by omega) (by omega) (by simp only [List.length_append, List.length_cons, List.length_nil]; omega) hk hm
theorem w_frame0 {viewed' vf' : Int} (h : Inv script place answered keep frames sounding since viewed vf) (hp : 0 ≤ place) (hl : place < script.length) (hm : (script.length : Int) ≤ 30000) (ha : (answered.length : Int) ≤ 5 * place) (hk : 1 ≤ keep) (hx : script.getD place.toNat 0 = 2)
    (h1 : script.getD (place + 1).toNat 0 ≤ 128)
    (hv : (script.getD (place + 1).toNat 0 = sounding ∧ viewed' = viewed ∧ vf' = 0) ∨ (¬ script.getD (place + 1).toNat 0 = sounding ∧ script.getD (place + 1).toNat 0 = viewed ∧ viewed' = viewed ∧ vf' = vf + 1) ∨ (¬ script.getD (place + 1).toNat 0 = sounding ∧ ¬ script.getD (place + 1).toNat 0 = viewed ∧ viewed' = script.getD (place + 1).toNat 0 ∧ vf' = 1))
    (h4 : vf' < keep) :
    Word script (nx script place) (answered ++ [1] ++ [0]) keep (frames + 1) sounding since viewed' vf' := by
  rcases hv with ⟨a, b, c⟩ | ⟨a, b, c, d⟩ | ⟨a, b, c, d⟩
  · rw [b, c]; exact w_same h hp hl hm ha hk hx h1 a
  · rw [c, d]; exact w_more h hp hl hm ha hk hx h1 a b (by omega)
  · rw [c, d]; exact w_new h hp hl hm ha hk hx h1 a b (by omega)
theorem w_frame1 {viewed' : Int} (h : Inv script place answered keep frames sounding since viewed vf) (hp : 0 ≤ place) (hl : place < script.length) (hm : (script.length : Int) ≤ 30000) (ha : (answered.length : Int) ≤ 5 * place) (hk : 1 ≤ keep) (hx : script.getD place.toNat 0 = 2)
    (h1 : script.getD (place + 1).toNat 0 ≤ 128) (h0 : ¬ script.getD (place + 1).toNat 0 = sounding)
    (hv : (script.getD (place + 1).toNat 0 = viewed ∧ viewed' = viewed ∧ ¬ vf + 1 < keep) ∨ (¬ script.getD (place + 1).toNat 0 = viewed ∧ viewed' = script.getD (place + 1).toNat 0 ∧ ¬ 1 < keep))
    (h5 : sounding = 128) :
    Word script (nx script place) (answered ++ [1] ++ [0]) keep (frames + 1) (script.getD (place + 1).toNat 0) (frames + 1 - keep) viewed' 0 := by
  rcases hv with ⟨b, c, d⟩ | ⟨b, c, d⟩
  · rw [c]; exact w_more0 h hp hl hm ha hk hx h1 h0 b d h5
  · rw [c]; exact w_new0 h hp hl hm ha hk hx h1 h0 b d h5
theorem w_frame4 {viewed' : Int} (h : Inv script place answered keep frames sounding since viewed vf) (hp : 0 ≤ place) (hl : place < script.length) (hm : (script.length : Int) ≤ 30000) (ha : (answered.length : Int) ≤ 5 * place) (hk : 1 ≤ keep) (hx : script.getD place.toNat 0 = 2)
    (h1 : script.getD (place + 1).toNat 0 ≤ 128) (h0 : ¬ script.getD (place + 1).toNat 0 = sounding)
    (hv : (script.getD (place + 1).toNat 0 = viewed ∧ viewed' = viewed ∧ ¬ vf + 1 < keep) ∨ (¬ script.getD (place + 1).toNat 0 = viewed ∧ viewed' = script.getD (place + 1).toNat 0 ∧ ¬ 1 < keep))
    (h5 : sounding ≠ 128) :
    Word script (nx script place) (answered ++ [4] ++ [1] ++ [sounding] ++ [since] ++ [frames + 1 - keep - since]) keep (frames + 1) (script.getD (place + 1).toNat 0) (frames + 1 - keep) viewed' 0 := by
  rcases hv with ⟨b, c, d⟩ | ⟨b, c, d⟩
  · rw [c]; exact w_more4 h hp hl hm ha hk hx h1 h0 b d h5
  · rw [c]; exact w_new4 h hp hl hm ha hk hx h1 h0 b d h5
theorem w_less (hp : 0 ≤ place) (hl : place < script.length) (hx : script.getD place.toNat 0 = 0 ∨ script.getD place.toNat 0 = 1 ∨ script.getD place.toNat 0 = 2 ∨ script.getD place.toNat 0 = 3) : script.length - (nx script place).toNat < script.length - place.toNat := by
  rcases hx with h | h | h | h
  · rw [nx0 h]; omega
  · rw [nx1 h]; omega
  · rw [nx2 h]; omega
  · rw [nx3 h]; omega
end words
theorem word_to {script answered answered' : List Int} {place place' keep frames sounding since viewed vf : Int}
    (hp : place' = nx script place ∨ (script.getD place.toNat 0 = 0 ∧ place' = place + 4) ∨ (script.getD place.toNat 0 = 1 ∧ place' = place + 2) ∨ (script.getD place.toNat 0 = 2 ∧ place' = place + 2) ∨ (script.getD place.toNat 0 = 3 ∧ place' = place + 1)) (ha : answered' = answered)
    (W : Word script (nx script place) answered keep frames sounding since viewed vf) : Word script place' answered' keep frames sounding since viewed vf := by
  have e : place' = nx script place := by
    rcases hp with h | h | h | h | h
    · exact h
    · rw [nx0 h.1]; exact h.2
    · rw [nx1 h.1]; exact h.2
    · rw [nx2 h.1]; exact h.2
    · rw [nx3 h.1]; exact h.2
  subst e ha
  exact W
end My
open PySem PySem.W PyProof.Rows
namespace My
section
variable {prog : Program} {w : World} {A : Around} {E : Value → Shared → Prop} {s : Shared} {h₀ : Heap} {L D b : Addr} {m : Str → Option Value} {news news' : List (Addr × Obj)} {its : Array Value} {n n2 : Nat} {x y z u : Value} {Q : Value → Shared → Prop}
theorem room {k : Nat} (h : its.size ≤ 16000000) (hk : k ≤ 4) : ¬(!its.isEmpty && Builtin.List.listTooLong (its.size + k)) = true := by
  unfold Builtin.List.listTooLong
  rw [PySem.sizeLine_eq]
  simp only [Bool.and_eq_true, decide_eq_true_eq]
  omega
theorem step_ext1 (F : Fr h₀ L s.heap m) (N : News h₀ L s.heap news) (hb : (b, listOf [x].toArray n2) ∈ news) (U : Upd D (listOf its n) (listOf (its.push x) (n + 1)) news news') (hz : its.size ≤ 16000000)
    (h : ∀ h', Fr h₀ L h' m → News h₀ L h' news' → Q .none { s with heap := h' }) : wpAny (model prog w) A (call (.builtin "list.extend") [.ref D, .ref b]) Q E s := by
  have e : (its.toList ++ [x]).toArray = its.push x := Array.toList_inj.mp (by simp)
  refine kl_extend (l := its.toList ++ [x]) F N hb rfl (by simp) (e ▸ U) (room hz (by simp)) ?_ ?_ h
  · rw [PySem.sizeLine_eq, Array.length_toList]; omega
  · rw [PySem.sizeLine_eq]; simp only [List.size_toArray, List.length_cons, List.length_nil]; omega
theorem step_ext4 (F : Fr h₀ L s.heap m) (N : News h₀ L s.heap news) (hb : (b, listOf [x, y, z, u].toArray n2) ∈ news) (U : Upd D (listOf its n) (listOf ((((its.push x).push y).push z).push u) (n + 1)) news news') (hz : its.size ≤ 16000000)
    (h : ∀ h', Fr h₀ L h' m → News h₀ L h' news' → Q .none { s with heap := h' }) : wpAny (model prog w) A (call (.builtin "list.extend") [.ref D, .ref b]) Q E s := by
  have e : (its.toList ++ [x, y, z, u]).toArray = (((its.push x).push y).push z).push u := Array.toList_inj.mp (by simp)
  refine kl_extend (l := its.toList ++ [x, y, z, u]) F N hb rfl (by simp) (e ▸ U) (room hz (by simp)) ?_ ?_ h
  · rw [PySem.sizeLine_eq, Array.length_toList]; omega
  · rw [PySem.sizeLine_eq]; simp only [List.size_toArray, List.length_cons, List.length_nil]; omega
end
theorem w_begin {script : List Int} (h : PySem.Challenge.rw_whichnote_s01_answers.pre [ofPy (PyData.list (script.map PyData.int))] = true) : Word script 0 [] 1 0 128 0 128 0 := by
  have hd := os_dec_ints (os_pre_isSome h)
  have asked : PyKs217.answers_asked script = true := os_pre_asked h hd.1
  exact word_of (inv_start asked fun x hx => (hd.2.2.2 x hx).1) (by omega) (by omega) (by simp) (by omega) (by have := hd.2.2.1; omega)
theorem bits_pow {a : Int} {n : Nat} (h : a.natAbs < 2 ^ 64) : PySem.Builtin.Int.intBits (a ^ n) ≤ 64 * n + 1 := by
  rw [PySem.intBits_le_iff, Int.natAbs_pow, Nat.pow_succ, Nat.pow_mul]
  have h1 : a.natAbs ^ n ≤ (2 ^ 64) ^ n := Nat.pow_le_pow_left (Nat.le_of_lt h) n
  have h2 : 0 < (2 ^ 64) ^ n := Nat.pow_pos (by decide)
  generalize (2 ^ 64) ^ n = P at *
  omega
theorem prod_small {a p : Int} (h1 : 0 ≤ a) (h2 : a ≤ 65535) (h3 : 0 ≤ p) (h4 : p ≤ 65535) : (a * p).natAbs < 2 ^ 64 := by
  rw [Int.natAbs_mul]
  have := Nat.mul_le_mul (show a.natAbs ≤ 65535 by omega) (show p.natAbs ≤ 65535 by omega)
  omega
section arith
variable {prog : Program} {w : World} {A : Around} {E : Value → Shared → Prop} {s : Shared} {x y : Int} {t u : Tok} {Q : Value → Shared → Prop}
theorem bits64 : PySem.Builtin.Int.intBits ((2 : Int) ^ 64) ≤ 65 := by
  rw [PySem.intBits_le_iff]; decide
theorem step_pow24 (hx : x.natAbs < 2 ^ 64) (h : Q (.int (x ^ 24) s.toks) { s with toks := s.toks + 1 }) :
    wpAny (model prog w) A (binaryOp .Pow (.int x t) (.int 24 u)) Q E s := PyProof.Rows.pow_int_small (by decide) (by decide) hx h
theorem step_pow64 (h : Q (.int (2 ^ 64) s.toks) { s with toks := s.toks + 1 }) :
    wpAny (model prog w) A (binaryOp .Pow (.int 2 t) (.int 64 u)) Q E s := PyProof.Rows.pow_int_small (by decide) (by decide) (by decide) h
theorem step_pow11 (h : Q (.int (2 ^ 11) s.toks) { s with toks := s.toks + 1 }) :
    wpAny (model prog w) A (binaryOp .Pow (.int 2 t) (.int 11 u)) Q E s := PyProof.Rows.pow_int_small (by decide) (by decide) (by decide) h
theorem step_mulA (hx : x.natAbs < 2 ^ 64) (h : Q (.int (x ^ 24 * 2 ^ 64) s.toks) { s with toks := s.toks + 1 }) :
    wpAny (model prog w) A (binaryOp .Mult (.int (x ^ 24) t) (.int (2 ^ 64) u)) Q E s :=
  PyProof.Rows.mul_int h (PyProof.Rows.mulOk_of_bits (bits_pow hx) bits64 (by decide))
theorem step_mulB (hx : x.natAbs < 2 ^ 64) (h : Q (.int (x ^ 24 * 2 ^ 64 * 2 ^ 64) s.toks) { s with toks := s.toks + 1 }) :
    wpAny (model prog w) A (binaryOp .Mult (.int (x ^ 24 * 2 ^ 64) t) (.int (2 ^ 64) u)) Q E s :=
  PyProof.Rows.mul_int h (PyProof.Rows.mulOk_of_bits (PyProof.Rows.bits_mul (bits_pow hx) bits64) bits64 (by decide))
theorem step_mulC (h : Q (.int (x * 2 ^ 11) s.toks) { s with toks := s.toks + 1 }) :
    wpAny (model prog w) A (binaryOp .Mult (.int x t) (.int (2 ^ 11) u)) Q E s :=
  PyProof.Rows.mul_int h (PySem.IntMulOk.of_right (PySem.intBits_le_64 (by decide) (by decide)))
theorem step_mulS (lo : -100000 ≤ y) (hi : y ≤ 100000) (h : Q (.int (x * y) s.toks) { s with toks := s.toks + 1 }) :
    wpAny (model prog w) A (binaryOp .Mult (.int x t) (.int y u)) Q E s :=
  PyProof.Rows.mul_int h (PySem.IntMulOk.of_right (PySem.intBits_le_64 (by omega) (by omega)))
end arith
theorem sz1 {vs : List Value} {ans : List Int} {v : Value} {place : Int} (hi : IntsAre vs ans) (h : (ans.length : Int) ≤ 5 * place) (hp : place ≤ 30000) : (vs.toArray.push v).size ≤ 16000000 := by
  have := hi.length
  simp only [Array.size_push, List.size_toArray]
  omega
theorem sz2 {vs : List Value} {ans : List Int} {v : Value} {place : Int} (hi : IntsAre vs ans) (h : (ans.length : Int) ≤ 5 * place) (hp : place ≤ 30000) : (vs ++ [v]).toArray.size ≤ 16000000 := by
  have := hi.length
  simp only [List.size_toArray, List.length_append, List.length_cons, List.length_nil]
  omega
end My
local macro_rules | `(tactic| walk_at "binaryOp Pow int int") => `(tactic| (k_here; first | (with_reducible refine My.step_pow64 ?_) | (with_reducible refine My.step_pow11 ?_) | ((with_reducible refine' My.step_pow24 ?k1 ?_); (case k1 => k_dflt (first | omega | exact My.prod_small (by omega) (by omega) (by omega) (by omega))))))
local macro_rules | `(tactic| walk_at "binaryOp Mult int int") => `(tactic| (k_here; first | ((with_reducible refine' My.step_mulA ?k1 ?_); (case k1 => k_dflt omega)) | ((with_reducible refine' My.step_mulB ?k1 ?_); (case k1 => k_dflt omega)) | (with_reducible refine My.step_mulC ?_) | ((with_reducible refine' My.step_mulS ?k1 ?k2 ?_); (case k1 => k_dflt omega); (case k2 => k_dflt omega))))
local macro_rules | `(tactic| walk_at "call builtin:list.extend") => `(tactic| (k_here; (with_reducible show wpAny _ _ (call (Value.builtin _) [Value.ref _, Value.ref _]) _ _ _); k_dflt (first
  | (refine' My.step_ext1 ?F ?N ?b ?U ?z ?_; (case F => k_asm); (case N => k_asm); (case b => k_mem); (case U => k_upd); (case z => first | exact My.sz1 (by assumption) (by assumption) (by omega) | exact My.sz2 (by assumption) (by assumption) (by omega)))
  | (refine' My.step_ext4 ?F ?N ?b ?U ?z ?_; (case F => k_asm); (case N => k_asm); (case b => k_mem); (case U => k_upd); (case z => first | exact My.sz1 (by assumption) (by assumption) (by omega) | exact My.sz2 (by assumption) (by assumption) (by omega)))); kl_rest))
example : List Int → Int → List Int → Int → Int → Int → Int → Int → Int → Prop := fun script place answered keep frames sounding since viewed vf => My.Word script place answered keep frames sounding since viewed vf
set_option maxRecDepth 100000 in
set_option maxHeartbeats 0 in
theorem PySem.Challenge.cw_whichnote_s01_answers_holds : PySem.Challenge.rw_whichnote_s01_answers.Holds := by
  k_with "state" => k_dflt (first
    | ((with_reducible show My.Edge _ _ _ _); first | exact My.edge_start (by assumption) | exact My.edge_turn (by assumption) (by assumption) | fail "edge")
    | ((with_reducible show My.Word _ _ (_ ++ [4] ++ [_] ++ [_] ++ [_] ++ [_]) _ _ _ _ _ _); first
      | exact My.w_fin4 (by assumption) (by assumption) (by assumption) (by assumption) (by assumption) (by assumption) (by omega) (by omega)
      | exact My.w_frame4 (by assumption) (by assumption) (by assumption) (by assumption) (by assumption) (by assumption) (by assumption) (by first | assumption | omega) (by omega) (by omega) (by omega)
      | fail "four")
    | ((with_reducible show My.Word _ _ (_ ++ [1] ++ [_]) _ _ _ _ _ _); first
      | exact My.w_noteV (My.noteOf_no (by omega)) (by assumption) (by assumption) (by assumption) (by assumption) (by assumption) (by assumption) (by assumption)
      | exact My.w_noteV (My.out_low ⟨by omega, by omega, by omega, by omega, by omega, by omega⟩ (by assumption)) (by assumption) (by assumption) (by assumption) (by assumption) (by assumption) (by assumption) (by assumption)
      | exact My.w_noteV (My.out_hit (by assumption) ⟨by omega, by omega, by omega, by omega, by omega, by omega⟩ (by assumption) (by omega) (by omega)) (by assumption) (by assumption) (by assumption) (by assumption) (by assumption) (by assumption) (by assumption)
      | exact My.w_noteV (My.out_high (by assumption) ⟨by omega, by omega, by omega, by omega, by omega, by omega⟩ (by rw [rangeKs_length]; rfl)) (by assumption) (by assumption) (by assumption) (by assumption) (by assumption) (by assumption) (by assumption)
      | exact My.w_start (by assumption) (by assumption) (by assumption) (by assumption) (by assumption) (by assumption) (by first | assumption | omega) (by first | assumption | omega)
      | exact My.w_frame0 (by assumption) (by assumption) (by assumption) (by assumption) (by assumption) (by assumption) (by assumption) (by first | assumption | omega) (by omega) (by omega)
      | exact My.w_frame1 (by assumption) (by assumption) (by assumption) (by assumption) (by assumption) (by assumption) (by assumption) (by first | assumption | omega) (by omega) (by omega) (by omega)
      | exact My.w_fin0 (by assumption) (by assumption) (by assumption) (by assumption) (by assumption) (by assumption) (by omega) (by omega)
      | exact My.w_no (by assumption) (by assumption) (by assumption) (by assumption) (by assumption) (by assumption) (by omega)
      | fail "one")
    | exact My.w_begin (by assumption)
    | fail "no lemma of this way")
  k_with "measure" => k_dflt (exact My.w_less (by assumption) (by assumption) (by omega))
  k_with "pyIter ref" => (k_of "note" => k_state_given ["sound", "edge!"] (fun sound e0 pre edge => My.Edge sound e0 pre edge) "edge")
  k_with "exec While Compare cons nil" => k_while (fun script place answered keep frames sounding since viewed vf => My.Word script place answered keep frames sounding since viewed vf) (fun script place _ _ _ _ _ _ _ => script.length - place.toNat) "place" "answered" "listener.keep" "listener.frames" "listener.sounding" "listener.since" "listener.viewed" "listener.viewed_frames"
  open_ks with [.list [.int 1, .int 1]]
  os_ints
  refine os_same_list ?_
  exact congrArg (List.map PyData.int) (My.inv_end (by assumption) (by first | omega | (dsimp only; omega)))
#print axioms PySem.Challenge.cw_whichnote_s01_answers_holds
