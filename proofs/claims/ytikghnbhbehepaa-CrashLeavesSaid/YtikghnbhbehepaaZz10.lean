/-
  Work that is done to a disk, up to the answer at which it ends; a disk that is armed, beside one that is not. No program stands here.
-/
import Derived.Test.YtikghnbhbehepaaZz9
import Derived.Test.YtikghnbhbehepaaZz1
namespace Go.Proofs.Ytikghnbhbehepaa
open Go.RowKit
set_option linter.unusedVariables false
set_option linter.unusedSimpArgs false

/-- One of the work's calls. -/
structure Wk where
  kind : Int
  name : List UInt8
  dest : List UInt8
  data : List UInt8
def Wk.sp (o : Wk) : Sp := ⟨o.kind, o.name, o.dest, o.data, 0, 0⟩
def Wk.prts (o : Wk) : List Prt := [.num .i64 o.kind, .txt o.name, .txt o.dest, .byt o.data]
def isWk (o : Wk) : Bool := isCall o.sp
/-- Work up to the first answer at which it ends: what was told ahead of it, the disk, that answer; 0, if there is none. -/
def workD (st : Int → Bool) (m : Dk) : List Wk → List Int × Dk × Int
  | [] => ([], m, 0)
  | o :: r =>
    if isWk o then
      (if st (doD m o.sp).1 then ([], (doD m o.sp).2, (doD m o.sp).1) else ((doD m o.sp).1 :: (workD st (doD m o.sp).2 r).1, (workD st (doD m o.sp).2 r).2))
    else workD st m r
/-- A disk behind calls, and what they answered. -/
def behindD (m : Dk) : List Wk → Dk
  | [] => m
  | o :: r => behindD (doD m o.sp).2 r
def ansD (m : Dk) : List Wk → List Int
  | [] => []
  | o :: r => (doD m o.sp).1 :: ansD (doD m o.sp).2 r

theorem workD_nil (st : Int → Bool) (m : Dk) : workD st m [] = ([], m, 0) := rfl
theorem workD_skip (st : Int → Bool) (m : Dk) (o : Wk) (r : List Wk) (h : isWk o = false) : workD st m (o :: r) = workD st m r := by
  rw [workD, if_neg (by rw [h]; decide)]
theorem workD_stop (st : Int → Bool) (m : Dk) (o : Wk) (r : List Wk) (h : isWk o = true) (hs : st (doD m o.sp).1 = true) : workD st m (o :: r) = ([], (doD m o.sp).2, (doD m o.sp).1) := by
  rw [workD, if_pos h, if_pos hs]
theorem workD_go (st : Int → Bool) (m : Dk) (o : Wk) (r : List Wk) (h : isWk o = true) (hs : st (doD m o.sp).1 = false) : workD st m (o :: r) = ((doD m o.sp).1 :: (workD st (doD m o.sp).2 r).1, (workD st (doD m o.sp).2 r).2) := by
  rw [workD, if_pos h, if_neg (by rw [hs]; decide)]
theorem workD_filter (st : Int → Bool) : ∀ (l : List Wk) (m : Dk), workD st m (l.filter isWk) = workD st m l := by
  intro l
  induction l with
  | nil => intro m; rfl
  | cons o r ih =>
    intro m
    cases h : isWk o
    · rw [List.filter_cons_of_neg (by rw [h]; decide), workD_skip _ _ _ _ h, ih]
    · rw [List.filter_cons_of_pos h]
      cases hs : st (doD m o.sp).1
      · rw [workD_go _ _ _ _ h hs, workD_go _ _ _ _ h hs, ih]
      · rw [workD_stop _ _ _ _ h hs, workD_stop _ _ _ _ h hs]
theorem len_ans : ∀ (c : List Wk) (m : Dk), (ansD m c).length = c.length := by
  intro c
  induction c with
  | nil => intro m; rfl
  | cons o r ih => intro m; simp [ansD, ih]
theorem work_len (st : Int → Bool) : ∀ (l : List Wk) (m : Dk), (workD st m l).1.length ≤ l.length := by
  intro l
  induction l with
  | nil => intro m; exact Nat.le_refl _
  | cons o r ih =>
    intro m
    rw [workD]
    split
    · split
      · exact Nat.zero_le _
      · have := ih (doD m o.sp).2
        simp
        omega
    · have := ih m
      simp
      omega
theorem behind_snoc : ∀ (c : List Wk) (m : Dk) (o : Wk), behindD m (c ++ [o]) = (doD (behindD m c) o.sp).2 := by
  intro c
  induction c with
  | nil => intro m o; rfl
  | cons a r ih => intro m o; exact ih _ o
theorem ans_at : ∀ (c : List Wk) (m : Dk) (k : Nat) (o : Wk), c[k]? = some o → (ansD m c)[k]? = some (doD (behindD m (c.take k)) o.sp).1 := by
  intro c
  induction c with
  | nil => intro m k o h; cases h
  | cons a r ih =>
    intro m k o h
    cases k with
    | zero =>
      have e : a = o := by simpa using h
      subst e
      rfl
    | succ k => exact ih (doD m a.sp).2 k o (by simpa using h)
theorem behind_take (c : List Wk) (m : Dk) (k : Nat) (o : Wk) (h : c[k]? = some o) : behindD m (c.take (k + 1)) = (doD (behindD m (c.take k)) o.sp).2 := by
  rw [List.take_add_one, h]
  exact behind_snoc _ _ _
theorem ans_take : ∀ (c : List Wk) (m : Dk) (k : Nat), ansD m (c.take k) = (ansD m c).take k := by
  intro c
  induction c with
  | nil => intro m k; simp [ansD]
  | cons a r ih =>
    intro m k
    cases k with
    | zero => rfl
    | succ k => simp [ansD, ih]

/-- A disk that is up, and not armed. -/
def UpD (m : Dk) : Prop := m.armed = false ∧ m.down = false
/-- It, armed. -/
def armD (m : Dk) (p : Nat) (keep : Int) : Dk := ⟨m.files, m.cap, m.calls, true, p, keep, m.down⟩

theorem begin_unarmed (m : Dk) (h : UpD m) : beginD m = (true, ⟨m.files, m.cap, m.calls + 1, m.armed, m.left, m.keep, m.down⟩) := by
  unfold beginD
  rw [if_neg (by rw [h.2]; decide), if_neg (by rw [h.1]; simp), if_neg (by rw [h.1]; decide)]
theorem begin_arms (m : Dk) (p : Nat) (keep : Int) (h : UpD m) : beginD (armD m (p + 1) keep) = (true, ⟨m.files, m.cap, m.calls + 1, true, p, keep, m.down⟩) := by
  unfold beginD armD
  rw [if_neg (by show ¬ m.down = true; rw [h.2]; decide), if_neg (by simp)]
  simp
theorem begin_arm0 (m : Dk) (keep : Int) (h : UpD m) : beginD (armD m 0 keep) = (false, crashD keep (armD m 0 keep)) := by
  unfold beginD armD
  rw [if_neg (by show ¬ m.down = true; rw [h.2]; decide), if_pos (by simp)]
theorem do_isCall (m : Dk) (s : Sp) (h : isCall s = true) : doD m s = if (beginD m).1 then callD (beginD m).2 s else (19, (beginD m).2) := by
  have hk : 1 ≤ s.kind ∧ s.kind ≤ 4 := by
    unfold isCall at h
    simpa using h
  unfold doD
  rw [if_neg (by omega), if_neg (by omega), if_neg (by omega), if_neg (by rw [h]; decide)]
theorem callD_shape (m : Dk) (s : Sp) : (callD m s).1 ≠ 19 ∧ ∃ l, (callD m s).2 = withFs m l ∧ ∀ m' : Dk, m'.files = m.files → m'.cap = m.cap → callD m' s = ((callD m s).1, withFs m' l) := by
  unfold callD
  have key : ∀ m' : Dk, m'.files = m.files → m'.cap = m.cap → m' = withFs m' m.files := fun m' h _ => by rw [← h]; rfl
  split
  · exact ⟨(by intro h; cases h), m.files, rfl, fun m' h1 h2 => by rw [← key m' h1 h2]⟩
  split
  · split
    · refine ⟨(by intro h; cases h), m.files, rfl, fun m' h1 h2 => ?_⟩
      rename_i hc
      rw [h1, if_pos hc, ← key m' h1 h2]
    split
    · refine ⟨(by intro h; cases h), m.files, rfl, fun m' h1 h2 => ?_⟩
      rename_i hc hd
      rw [h1, h2, if_neg hc, if_pos hd, ← key m' h1 h2]
    · refine ⟨(by intro h; cases h), _, rfl, fun m' h1 h2 => ?_⟩
      rename_i hc hd
      rw [h1, h2, if_neg hc, if_neg hd]
  split
  · refine ⟨(by intro h; cases h), m.files, rfl, fun m' h1 h2 => ?_⟩
    rename_i hc
    rw [h1, if_pos hc, ← key m' h1 h2]
  split
  · refine ⟨(by intro h; cases h), _, rfl, fun m' h1 h2 => ?_⟩
    rename_i hc hd
    rw [h1, if_neg hc]
  split
  · refine ⟨(by intro h; cases h), _, rfl, fun m' h1 h2 => ?_⟩
    rename_i hc hd he
    rw [h1, if_neg hc]
  · refine ⟨(by intro h; cases h), _, rfl, fun m' h1 h2 => ?_⟩
    rename_i hc hd he
    rw [h1, if_neg hc]

theorem do_armed (m : Dk) (p : Nat) (keep : Int) (s : Sp) (h : UpD m) (hs : isCall s = true) : (doD m s).1 ≠ 19 ∧ UpD (doD m s).2 ∧ doD (armD m (p + 1) keep) s = ((doD m s).1, armD (doD m s).2 p keep) := by
  have e1 : doD m s = callD ⟨m.files, m.cap, m.calls + 1, m.armed, m.left, m.keep, m.down⟩ s := by rw [do_isCall m s hs, begin_unarmed m h]; rfl
  have e2 : doD (armD m (p + 1) keep) s = callD ⟨m.files, m.cap, m.calls + 1, true, p, keep, m.down⟩ s := by rw [do_isCall _ s hs, begin_arms m p keep h]; rfl
  obtain ⟨h1, l, h2, h3⟩ := callD_shape ⟨m.files, m.cap, m.calls + 1, m.armed, m.left, m.keep, m.down⟩ s
  have h4 := h3 ⟨m.files, m.cap, m.calls + 1, true, p, keep, m.down⟩ rfl rfl
  rw [e1, e2, h4, h2]
  exact ⟨h1, h, rfl⟩
theorem do_zero (m : Dk) (keep : Int) (s : Sp) (h : UpD m) (hs : isCall s = true) : doD (armD m 0 keep) s = (19, crashD keep (armD m 0 keep)) := by
  rw [do_isCall _ s hs, begin_arm0 m keep h]
  rfl

/-- Work on a disk that is armed. -/
theorem work_armed (keep : Int) : ∀ (c : List Wk) (m : Dk) (p : Nat), UpD m → (∀ o ∈ c, isWk o = true) →
    (p < c.length → workD (fun e => e == 19) (armD m p keep) c = (ansD m (c.take p), crashD keep (armD (behindD m (c.take p)) 0 keep), 19)) ∧
    (c.length ≤ p → workD (fun e => e == 19) (armD m p keep) c = (ansD m c, armD (behindD m c) (p - c.length) keep, 0)) := by
  intro c
  induction c with
  | nil =>
    intro m p h _
    exact ⟨fun h => absurd h (by simp), fun _ => rfl⟩
  | cons o r ih =>
    intro m p h hc
    have ho := hc o List.mem_cons_self
    cases p with
    | zero =>
      refine ⟨fun _ => ?_, fun h => absurd h (by simp)⟩
      have e := do_zero m keep o.sp h ho
      rw [workD_stop _ _ _ _ ho (by rw [e]; rfl), e]
      rfl
    | succ p =>
      obtain ⟨h1, h2, h3⟩ := do_armed m p keep o.sp h ho
      have hst : ((doD (armD m (p + 1) keep) o.sp).1 == 19) = false := by rw [h3]; simpa using h1
      obtain ⟨g1, g2⟩ := ih (doD m o.sp).2 p h2 fun x hx => hc x (List.mem_cons_of_mem _ hx)
      rw [workD_go _ _ _ _ ho hst, h3]
      refine ⟨fun hl => ?_, fun hl => ?_⟩
      · rw [g1 (by simpa using hl)]
        rfl
      · rw [g2 (by simpa using hl), List.length_cons, Nat.add_sub_add_right]
        rfl
theorem crash_files (keep : Int) (m : Dk) (p : Nat) (k2 : Int) : (crashD keep (armD m p k2)).files = m.files.map (cutF keep) := rfl

/-- What is left of it. -/
theorem work_left (l : List Wk) (m : Dk) (p : Nat) (keep : Int) (h : UpD m) :
    (if (workD (fun e => e == 19) (armD m p keep) l).2.2 = 19 then (workD (fun e => e == 19) (armD m p keep) l).2.1 else crashD keep (workD (fun e => e == 19) (armD m p keep) l).2.1).files = (behindD m ((l.filter isWk).take p)).files.map (cutF keep) := by
  have hw := work_armed keep (l.filter isWk) m p h fun o ho => (List.mem_filter.1 ho).2
  rw [workD_filter] at hw
  rcases Nat.lt_or_ge p (l.filter isWk).length with hp | hp
  · rw [hw.1 hp, if_pos rfl]
    rfl
  · rw [hw.2 hp, if_neg (by intro h; cases h), List.take_of_length_le hp]
    rfl
theorem behind_ok (k : Nat) : ∀ (c : List Wk) (m : Dk), OkD k m → (∀ o ∈ c, o.data.length ≤ 200) → OkD (k + c.length) (behindD m c) := by
  intro c
  induction c generalizing k with
  | nil => intro m h _; exact h
  | cons o r ih =>
    intro m h hd
    have h1 := do_ok o.sp h (hd o List.mem_cons_self) (by show (0 : Nat) < _; omega)
    have := ih (k + 1) _ h1 fun x hx => hd x (List.mem_cons_of_mem _ hx)
    rw [List.length_cons, Nat.add_comm r.length 1, ← Nat.add_assoc]
    exact this
theorem behind_srt : ∀ (c : List Wk) (m : Dk), SrtF m.files → SrtF (behindD m c).files := by
  intro c
  induction c with
  | nil => intro m h; exact h
  | cons o r ih => intro m h; exact ih _ (do_srt m o.sp h)

def smallW (o : Wk) : Bool := decide (o.data.length ≤ 200) && (decide (o.name.length ≤ 100) && decide (o.dest.length ≤ 100))
def largeW (ss : List Wk) : Bool := !((ss.take 60).all smallW) || decide (60 < ss.length)
theorem largeW_false (ss : List Wk) (h : largeW ss = false) : ss.length ≤ 60 ∧ ∀ s ∈ ss, s.data.length ≤ 200 ∧ s.name.length ≤ 100 ∧ s.dest.length ≤ 100 := by
  unfold largeW at h
  rw [Bool.or_eq_false_iff] at h
  obtain ⟨h1, h2⟩ := h
  have h3 : ss.length ≤ 60 := by
    have := of_decide_eq_false h2
    omega
  refine ⟨h3, fun s hs => ?_⟩
  rw [List.take_of_length_le h3] at h1
  have h4 : ss.all smallW = true := by simpa using h1
  have := List.all_eq_true.1 h4 s hs
  simpa [smallW] using this
theorem largeW_out (ss : List Wk) (k : Nat) (s : Wk) (hk : k < 60) (hs : ss[k]? = some s) (h : smallW s = false) : largeW ss = true := by
  unfold largeW
  have : (ss.take 60).all smallW = false := by
    rw [List.all_eq_false]
    exact ⟨s, List.mem_of_getElem? (i := k) (by rw [List.getElem?_take_of_lt hk]; exact hs), by simp [h]⟩
  rw [this]
  rfl
theorem largeW_end (ss : List Wk) (k : Nat) (h : (ss.take k).all smallW = true) (hk : k = ss.length ∧ k ≤ 60 ∨ k = 60) : largeW ss = decide (60 < ss.length) := by
  unfold largeW
  have : (ss.take 60).all smallW = true := by
    rcases hk with ⟨rfl, h2⟩ | rfl
    · rw [List.take_of_length_le h2]
      rw [List.take_length] at h
      exact h
    · exact h
  rw [this]
  rfl

/-- A struct's cells are one of the work's calls. -/
theorem wk_parts {ys : List Value} {w : World} {S : Nat → Prop} {o : Wk} (h : PrtsV w S ys o.prts) : ∃ A n c, ys = [.int .i64 o.kind, .string ⟨o.name.toArray⟩, .string ⟨o.dest.toArray⟩, .slice A n c] ∧ BytS w S A n o.data ∧ (A = none → n = 0 ∧ c = 0) ∧ n ≤ c ∧ c ≤ maxLen := by
  obtain ⟨y0, r0, rfl, h0, y1, r1, rfl, h1, y2, r2, rfl, h2, y3, r3, rfl, h3, rfl⟩ := h
  obtain ⟨A, n, c, rfl, h4⟩ := h3
  have e0 : y0 = .int .i64 o.kind := h0
  have e1 : y1 = .string ⟨o.name.toArray⟩ := h1
  have e2 : y2 = .string ⟨o.dest.toArray⟩ := h2
  subst e0; subst e1; subst e2
  exact ⟨A, n, c, rfl, h4⟩
/-- Work in memory. -/
def Wks (w : World) (S : Nat → Prop) (A : Option Addr) (n : Nat) (l : List Wk) : Prop := Sls w S 4 A n (l.map Wk.prts)
/-- The k-th call: where it stands. -/
theorem Wks.at_ {w : World} {S : Nat → Prop} {A : Option Addr} {n : Nat} {l : List Wk} (h : Wks w S A n l) {k : Nat} {o : Wk} (hk : l[k]? = some o) :
    ∃ b f A2 n2 c2, A = some ⟨b, f, none⟩ ∧ ¬ S b ∧ b < w.heap.size ∧ (w.cell? ⟨b, f + k * 4, none⟩ = some (.int .i64 o.kind) ∧ w.cell? ⟨b, f + k * 4 + 1, none⟩ = some (.string ⟨o.name.toArray⟩) ∧ w.cell? ⟨b, f + k * 4 + 2, none⟩ = some (.string ⟨o.dest.toArray⟩) ∧ w.cell? ⟨b, f + k * 4 + 3, none⟩ = some (.slice A2 n2 c2)) ∧ BytS w S A2 n2 o.data ∧ (A2 = none → n2 = 0 ∧ c2 = 0) ∧ n2 ≤ c2 ∧ c2 ≤ maxLen := by
  obtain ⟨b, f, ys, e, hS, hl, hp, _, hc⟩ := Sls.at_ h (j := k) (f := o.prts) (by rw [List.getElem?_map, hk]; rfl)
  obtain ⟨A2, n2, c2, rfl, h1, h2⟩ := wk_parts hp
  exact ⟨b, f, A2, n2, c2, e, hS, hl, ⟨hc 0 _ rfl, hc 1 _ rfl, hc 2 _ rfl, hc 3 _ rfl⟩, h1, h2⟩
theorem Wks.len {w : World} {S : Nat → Prop} {A : Option Addr} {n : Nat} {l : List Wk} (h : Wks w S A n l) : l.length = n := by
  have := h.1
  rwa [List.length_map] at this

theorem Wks.turn {w w' : World} {S : Nat → Prop} {A : Option Addr} {n : Nat} {l : List Wk} (h : Wks w S A n l) (ht : Turn S w w') : Wks w' S A n l := Sls.turn h ht
theorem Wks.less {w : World} {S S' : Nat → Prop} {A : Option Addr} {n : Nat} {l : List Wk} (h : Wks w S A n l) (hs : ∀ k, S' k → S k) : Wks w S' A n l := Sls.less h hs
theorem Wks.more {w : World} {S S' : Nat → Prop} {A : Option Addr} {n : Nat} {l : List Wk} (h : Wks w S A n l) (hs : ∀ k, S' k → k < w.heap.size → S k) : Wks w S' A n l := Sls.more h hs
theorem Wks.take {w : World} {S : Nat → Prop} {A : Option Addr} {n : Nat} {l : List Wk} (h : Wks w S A n l) {m : Nat} (hm : m ≤ n) : Wks w S A m (l.take m) := by
  have := Sls.take h hm
  rwa [← List.map_take] at this

end Go.Proofs.Ytikghnbhbehepaa

/-
  The reference's answers about work: are there too many calls; is one a call; as a step; those that are calls.
-/
namespace Go.Proofs.Ytikghnbhbehepaa
open Go.RowKit
set_option linter.unusedVariables false
set_option linter.unusedSimpArgs false

set_option maxRecDepth 100000 in
set_option maxHeartbeats 2000000 in
theorem large10_any (A : Option Addr) (n c : Nat) (ss : List Wk) (S : Nat → Prop) (W : World) (hss : Wks W S A n ss) (hn : n ≤ maxLen) :
    Calls Try.prog 6 #[.slice A n c] W fun e W' => e = .returned (.bool (largeW ss)) ∧ W' = W := by
  unfold maxLen at hn
  have HL : Hid (ss.length = n) := Lib.hid hss.len
  have HF := Lib.hid hss
  clear hss
  go_enter Try.func6, Try.ntmps6
  go_wp2
  go_loop [3] (fun i => ∃ k : Nat, k ≤ n ∧ k ≤ 60 ∧ i = .int .i64 k ∧ (ss.take k).all smallW = true) (fun i => n - (intOf i).toNat)
  case atStart => exact ⟨0, Nat.zero_le _, by omega, rfl, rfl⟩
  case round =>
    obtain ⟨k, hk, hk9, rfl, hno⟩ := hrel
    by_cases hlt : k < n
    · by_cases hlt9 : k < 60
      · have d2 : decide ((k : Int) < 60) = true := decide_eq_true (by omega)
        obtain ⟨s, hs⟩ : ∃ s, ss[k]? = some s := ⟨_, List.getElem?_eq_getElem (by have := HL.out; omega)⟩
        obtain ⟨b, o, A2, n2, c2, rfl, _, _, ⟨p0, p1, p2, p3⟩, hby, _⟩ := HF.out.at_ hs
        obtain ⟨T, hT⟩ : ∃ T : ByteArray, ⟨s.name.toArray⟩ = T := ⟨_, rfl⟩
        have hTs : T.size = s.name.length := by rw [← hT]; show s.name.toArray.size = _; simp
        obtain ⟨U, hU⟩ : ∃ U : ByteArray, ⟨s.dest.toArray⟩ = U := ⟨_, rfl⟩
        have hUs : U.size = s.dest.length := by rw [← hU]; show s.dest.toArray.size = _; simp
        rw [hT] at p1
        rw [hU] at p2
        have hn2 := hby.1
        have HI := Lib.hid (And.intro hTs (And.intro hUs (And.intro hn2 (And.intro hs hno))))
        clear hby hT hTs hU hUs hn2 hs hno p0
        by_cases h0 : 200 < n2
        · have d3 : decide ((200 : Int) < (n2 : Int)) = true := decide_eq_true (by omega)
          have HR : Hid (largeW ss = true) := Lib.hid (largeW_out ss k s hlt9 HI.out.2.2.2.1 (by have := HI.out.2.2.1; simp [smallW]; omega))
          clear h0
          go_wp2
          go_ret
          exact ⟨by rw [HR.out]; rfl, rfl⟩
        · have d3 : decide ((200 : Int) < (n2 : Int)) = false := decide_eq_false (by omega)
          by_cases h1 : 100 < T.size
          · have d4 : decide ((100 : Int) < (T.size : Int)) = true := decide_eq_true (by omega)
            have HR : Hid (largeW ss = true) := Lib.hid (largeW_out ss k s hlt9 HI.out.2.2.2.1 (by have := HI.out.1; simp [smallW]; omega))
            clear h0 h1
            go_wp2
            go_ret
            exact ⟨by rw [HR.out]; rfl, rfl⟩
          · have d4 : decide ((100 : Int) < (T.size : Int)) = false := decide_eq_false (by omega)
            by_cases h2 : 100 < U.size
            · have d5 : decide ((100 : Int) < (U.size : Int)) = true := decide_eq_true (by omega)
              have HR : Hid (largeW ss = true) := Lib.hid (largeW_out ss k s hlt9 HI.out.2.2.2.1 (by have := HI.out.2.1; simp [smallW]; omega))
              clear h0 h1 h2
              go_wp2
              go_ret
              exact ⟨by rw [HR.out]; rfl, rfl⟩
            · have d5 : decide ((100 : Int) < (U.size : Int)) = false := decide_eq_false (by omega)
              have HR : Hid ((ss.take (k + 1)).all smallW = true) := Lib.hid (by
                obtain ⟨i1, i2, i3, i4, i5⟩ := HI.out
                rw [List.take_add_one, i4, List.all_append, i5]
                simp [smallW]
                omega)
              clear h0 h1 h2
              go_wp2
              go_round
              case rel => exact ⟨k + 1, by omega, by omega, by go_num, HR.out⟩
              case measure => simp [intOf]; omega
      · have hk90 : k = 60 := by omega
        have d2 : decide ((k : Int) < 60) = false := decide_eq_false (by omega)
        have HR : Hid (largeW ss = decide ((60 : Int) < (n : Int))) := Lib.hid (by
          rw [largeW_end ss k hno (.inr hk90), HL.out]
          congr 1
          exact propext ⟨fun h => by omega, fun h => by omega⟩)
        clear hno hk90
        go_wp2
        go_ret
        exact ⟨by rw [HR.out]; rfl, rfl⟩
    · have hkn : k = n := by omega
      have HR : Hid (largeW ss = decide ((60 : Int) < (n : Int))) := Lib.hid (by
        rw [largeW_end ss k hno (.inl ⟨by rw [HL.out]; exact hkn, hk9⟩), HL.out]
        congr 1
        exact propext ⟨fun h => by omega, fun h => by omega⟩)
      clear hno
      go_wp2
      go_ret
      exact ⟨by rw [HR.out]; rfl, rfl⟩

/-- The value of one of the work's calls. -/
def wkV (o : Wk) (A : Option Addr) (n c : Nat) : Value := .agg #[.int .i64 o.kind, .string ⟨o.name.toArray⟩, .string ⟨o.dest.toArray⟩, .slice A n c]

set_option maxHeartbeats 1000000 in
theorem call10_any (o : Wk) (A : Option Addr) (n c : Nat) (W : World) :
    Calls Try.prog 27 #[wkV o A n c] W fun e W' => e = .returned (.bool (isWk o)) ∧ Below W.heap.size W W' := by
  obtain ⟨K, hK⟩ : ∃ K, o.kind = K := ⟨_, rfl⟩
  have hR : isWk o = (decide (1 ≤ K) && decide (K ≤ 4)) := by rw [← hK]; rfl
  unfold wkV
  rw [hK, hR]
  clear hK hR
  have HB := Lib.hid (Below.refl W.heap.size W)
  by_cases h1 : 1 ≤ K
  · have d1 : decide (1 ≤ K) = true := decide_eq_true h1
    by_cases h2 : K ≤ 4
    · have d2 : decide (K ≤ 4) = true := decide_eq_true h2
      go_enter Try.func27, Try.ntmps27
      go_wp2
      go_ret
      exact ⟨by simp [d1, d2], HB.out.alloc (Nat.le_refl _) _⟩
    · have d2 : decide (K ≤ 4) = false := decide_eq_false h2
      go_enter Try.func27, Try.ntmps27
      go_wp2
      go_ret
      exact ⟨by simp [d1, d2], HB.out.alloc (Nat.le_refl _) _⟩
  · have d1 : decide (1 ≤ K) = false := decide_eq_false h1
    go_enter Try.func27, Try.ntmps27
    go_wp2
    go_ret
    exact ⟨by simp [d1], HB.out.alloc (Nat.le_refl _) _⟩

/-- A step's cells, at first. -/
def zStep : List Value := [.int .i64 0, .string ⟨#[]⟩, .string ⟨#[]⟩, .slice none 0 0, .int .u64 0, .int .i64 0]
set_option maxHeartbeats 1000000 in
theorem step10_any (o : Wk) (A : Option Addr) (n c : Nat) (W : World) :
    Calls Try.prog 17 #[wkV o A n c] W fun e W' => e = .returned (spV o.sp A n c) ∧ Below W.heap.size W W' := by
  obtain ⟨K, hK⟩ : ∃ K, o.kind = K := ⟨_, rfl⟩
  obtain ⟨T, hT⟩ : ∃ T : ByteArray, ⟨o.name.toArray⟩ = T := ⟨_, rfl⟩
  obtain ⟨U, hU⟩ : ∃ U : ByteArray, ⟨o.dest.toArray⟩ = U := ⟨_, rfl⟩
  have hR : spV o.sp A n c = .agg #[.int .i64 K, .string T, .string U, .slice A n c, .int .u64 0, .int .i64 0] := by rw [← hK, ← hT, ← hU]; rfl
  unfold wkV
  rw [hK, hT, hU, hR]
  clear hK hT hU hR
  go_enter Try.func17, Try.ntmps17
  have HN : Hid (Blk ((W.alloc (.cells #[.int .i64 K, .string T, .string U, .slice A n c] 49)).alloc (.cells zStep.toArray 46)) (W.heap.size + 1) 46 zStep) := Lib.hid (by
    have := Blk.new (cs := zStep) (W.alloc (.cells #[.int .i64 K, .string T, .string U, .slice A n c] 49)) 46 _ rfl
    simpa using this)
  have HB := Lib.hid (((Below.refl W.heap.size W).alloc (Nat.le_refl _) (.cells #[.int .i64 K, .string T, .string U, .slice A n c] 49)).alloc (by simp) (.cells zStep.toArray 46))
  go_wp2_with (refine st_blk rfl 46 _ _ rfl (W.heap.size + 1) [.int .i64 K, .string T, .string U, .slice A n c, .int .u64 0, .int .i64 0] rfl rfl 46 zStep HN.out (by kernel_rfl) rfl (by simp [Value.oneCell']) ?_)
  exact ret_cell_one rfl (W.heap.size + 1) 46 [.int .i64 K, .string T, .string U, .slice A n c, .int .u64 0, .int .i64 0] rfl (HN.out.row _) _ Try.underlying46 (by kernel_rfl) rfl ⟨rfl, below_row HB.out (by omega) _⟩

theorem Try.infoOp : (Try.prog.info? 49).map (fun i => (i.zero, i.size, i.bytes)) = some (some (.agg #[.int .i64 0, .string ⟨#[]⟩, .string ⟨#[]⟩, .slice none 0 0]), 4, 64) := by kernel_rfl

theorem wks_snoc (l : List Wk) (k : Nat) (o : Wk) (h : l[k]? = some o) (hw : isWk o = true) : ((l.take (k + 1)).filter isWk).map Wk.prts = ((l.take k).filter isWk).map Wk.prts ++ [o.prts] := by
  rw [List.take_add_one, h, List.filter_append]
  simp [hw]
theorem wks_skip (l : List Wk) (k : Nat) (o : Wk) (h : l[k]? = some o) (hw : isWk o = false) : (l.take (k + 1)).filter isWk = (l.take k).filter isWk := by
  rw [List.take_add_one, h, List.filter_append]
  simp [hw]

/-- Calls that a call hands back: a row of its own, their bytes where they were. -/
def WksOut (S : Nat → Prop) (l : List Wk) (W : World) (e : Ending) (W' : World) : Prop :=
  ∃ v xs, e = .returned v ∧ W'.ownsRow W.heap.size 49 4 v l.length xs ∧ PrtsV W' S xs (l.map Wk.prts).flatten ∧ Below W.heap.size W W'

set_option maxRecDepth 100000 in
set_option maxHeartbeats 2000000 in
theorem calls10_any (A : Option Addr) (n c : Nat) (l : List Wk) (S : Nat → Prop) (W : World) (hl : Wks W S A n l) (hS : ∀ k, W.heap.size ≤ k → S k) (hn : n ≤ 1000000) :
    Calls Try.prog 14 #[.slice A n c] W (WksOut S (l.filter isWk) W) := by
  obtain ⟨i0, hi, hz0, hz1, hz2⟩ := info_parts Try.infoOp
  have HF := Lib.hid hl
  have HL := Lib.hid hl.len
  clear hl
  go_enter Try.func14, Try.ntmps14
  go_wp2
  go_loopw [3, 4] (fun v i wr => ∃ k : Nat, k ≤ n ∧ i = .int .i64 k ∧ ∃ xs, wr.ownsRow W.heap.size 49 4 v (((l.take k).filter isWk).map Wk.prts).length xs ∧ PrtsV wr S xs (((l.take k).filter isWk).map Wk.prts).flatten ∧ Below W.heap.size W wr) (fun _ i _ => n - (intOf i).toNat)
  case atStart => exact ⟨0, Nat.zero_le _, rfl, [], World.ownsRow_nil _ _ _ _, rfl, Below.refl _ _⟩
  case round =>
    obtain ⟨k, hk, rfl, xs, hown, hx, hb⟩ := hrel
    by_cases hlt : k < n
    · obtain ⟨s, hs⟩ : ∃ s, l[k]? = some s := ⟨_, List.getElem?_eq_getElem (by have := HL.out; omega)⟩
      obtain ⟨b, o, A2, n2, c2, rfl, hbS, hbl, hcells, hby, hnil2, hnc2, hcm2⟩ := (HF.out.turn (Turn.of_below hb)).at_ hs
      obtain ⟨T, hT⟩ : ∃ T : ByteArray, ⟨s.name.toArray⟩ = T := ⟨_, rfl⟩
      obtain ⟨U, hU⟩ : ∃ U : ByteArray, ⟨s.dest.toArray⟩ = U := ⟨_, rfl⟩
      obtain ⟨K, hK⟩ : ∃ K, s.kind = K := ⟨_, rfl⟩
      have hCa := fun w => call10_any s A2 n2 c2 w
      unfold wkV at hCa
      have hP : PrtsV wr S [.int .i64 K, .string T, .string U, .slice A2 n2 c2] s.prts := ⟨_, _, rfl, by rw [← hK]; rfl, _, _, rfl, by rw [← hT]; rfl, _, _, rfl, by rw [← hU]; rfl, _, _, rfl, ⟨A2, n2, c2, rfl, hby, hnil2, hnc2, hcm2⟩, rfl⟩
      rw [hK, hT, hU] at hcells hCa
      have HCells : Hid (∀ w, Below wr.heap.size wr w → w.cell? ⟨b, o + k * 4, none⟩ = some (.int .i64 K) ∧ w.cell? ⟨b, o + k * 4 + 1, none⟩ = some (.string T) ∧ w.cell? ⟨b, o + k * 4 + 2, none⟩ = some (.string U) ∧ w.cell? ⟨b, o + k * 4 + 3, none⟩ = some (.slice A2 n2 c2)) := Lib.hid (fun w hw => by
        obtain ⟨r0, r1, r2, r3⟩ := hcells
        exact ⟨(hw.cell (p := ⟨b, _, none⟩) hbl).trans r0, (hw.cell (p := ⟨b, _, none⟩) hbl).trans r1, (hw.cell (p := ⟨b, _, none⟩) hbl).trans r2, (hw.cell (p := ⟨b, _, none⟩) hbl).trans r3⟩)
      have HP := Lib.hid hP
      obtain ⟨r0, r1, r2, r3⟩ := hcells
      have hbs := hb.size
      clear hT hU hK hP hby hnil2 hnc2 hcm2 hbS
      have HX := Lib.hid (And.intro hown (And.intro hx hb))
      cases hw : isWk s
      · rw [hw] at hCa
        have hst := wks_skip l k s hs hw
        have HS := Lib.hid hst
        clear hst hw hs hown hx hb
        go_wp2_with fail
        refine (hCa _).mono ?_
        rintro e W2 ⟨rfl, hb2⟩
        obtain ⟨hown, hx, hb⟩ := HX.out
        have HR : Hid (W2.ownsRow W.heap.size 49 4 u3 (((l.take (k + 1)).filter isWk).map Wk.prts).length xs ∧ PrtsV W2 S xs (((l.take (k + 1)).filter isWk).map Wk.prts).flatten ∧ Below W.heap.size W W2) := Lib.hid (by
          rw [HS.out]
          exact ⟨own_below hown hb2, hx.turn (Turn.of_below hb2), bthen hb hb2⟩)
        clear hown hx hb hb2 hCa
        go_wp2_with fail
        go_roundw
        case rel => exact ⟨k + 1, by omega, by go_num, xs, HR.out⟩
        case measure => simp [intOf]; omega
      · rw [hw] at hCa
        have hst := wks_snoc l k s hs hw
        have HS := Lib.hid hst
        have hln : (((l.take k).filter isWk).map Wk.prts).length ≤ 1000000 := by
          rw [List.length_map]
          have h1 := List.length_filter_le isWk (l.take k)
          have h2 : (l.take k).length ≤ k := List.length_take_le _ _
          omega
        clear hst hw hs hown hx hb r0 r1 r2 r3
        obtain ⟨r0, r1, r2, r3⟩ := HCells.out wr (Below.refl _ _)
        go_wp2_with fail
        refine (hCa _).mono ?_
        rintro e W2 ⟨rfl, hb2⟩
        obtain ⟨hown, hx, hb⟩ := HX.out
        have hown2 := own_below hown hb2
        have hx2 := hx.turn (Turn.of_below hb2)
        have hbW := bthen hb hb2
        have hP2 := HP.out.turn (Turn.of_below hb2)
        have hbs2 := hbW.size
        obtain ⟨q0, q1, q2, q3⟩ := HCells.out W2 hb2
        clear hown hx hb hb2 hCa r0 r1 r2 r3 HX
        go_wp2_with (at_builtin; refine wpList_append_prt 49 rfl _ _ 23 rfl 49 i0 _ 4 64 Try.underlying23 hi hz0 hz1 hz2 rfl (by decide) (by decide) _ (((l.take k).filter isWk).map Wk.prts) xs rfl hown2 hx2 hbW hbs2 hS [.int .i64 K, .string T, .string U, .slice A2 n2 c2] s.prts hP2 rfl rfl hln ?_)
        intro v' w4 ho4 hx4 hb4 hs4
        have ho5 : w4.ownsRow W.heap.size 49 4 v' (((l.take (k + 1)).filter isWk).map Wk.prts).length (xs ++ [.int .i64 K, .string T, .string U, .slice A2 n2 c2]) := by rw [HS.out]; simpa using ho4
        have hx5 : PrtsV w4 S (xs ++ [.int .i64 K, .string T, .string U, .slice A2 n2 c2]) (((l.take (k + 1)).filter isWk).map Wk.prts).flatten := by rw [HS.out]; simpa using hx4
        have HR := Lib.hid (And.intro ho5 (And.intro hx5 hb4))
        clear ho4 hx4 ho5 hx5 hb4 hown2 hx2 hbW hP2 q0 q1 q2 q3
        go_wp2_with fail
        go_roundw
        case rel => exact ⟨k + 1, by omega, by go_num, _, HR.out⟩
        case measure => simp [intOf]; omega
    · have HR : Hid ((l.take k).filter isWk = l.filter isWk) := Lib.hid (by rw [List.take_of_length_le (by have := HL.out; omega)])
      have HX := Lib.hid (And.intro hown (And.intro hx hb))
      clear hown hx hb
      go_wp2
      go_ret
      obtain ⟨h1, h2, h3⟩ := HX.out
      rw [HR.out] at h1 h2
      rw [List.length_map] at h1
      exact ⟨_, xs, rfl, h1, h2, h3⟩

end Go.Proofs.Ytikghnbhbehepaa

/-
  Steps in memory; the reference's answer: are there too many, or too long ones?
-/
namespace Go.Proofs.Ytikghnbhbehepaa
open Go.RowKit
set_option linter.unusedVariables false
set_option linter.unusedSimpArgs false

/-- The value of a step, its bytes off S. -/
def SpV (w : World) (S : Nat → Prop) (v : Value) (s : Sp) : Prop :=
  ∃ A n c, v = spV s A n c ∧ BytS w S A n s.data ∧ (A = none → n = 0 ∧ c = 0) ∧ n ≤ c ∧ c ≤ maxLen
/-- The slice value '.slice A n c' reads as the steps ss, all of it off S. -/
def Sps (w : World) (S : Nat → Prop) (A : Option Addr) (n : Nat) (ss : List Sp) : Prop :=
  ss.length = n ∧ (0 < n → ∃ b o, A = some ⟨b, o, none⟩ ∧ ¬ S b ∧ ∀ (j : Nat) (s : Sp), ss[j]? = some s → ∃ y0 y1 y2 y3 y4 y5, (w.cell? ⟨b, o + j * 6, none⟩ = some y0 ∧ w.cell? ⟨b, o + j * 6 + 1, none⟩ = some y1 ∧ w.cell? ⟨b, o + j * 6 + 2, none⟩ = some y2 ∧ w.cell? ⟨b, o + j * 6 + 3, none⟩ = some y3 ∧ w.cell? ⟨b, o + j * 6 + 4, none⟩ = some y4 ∧ w.cell? ⟨b, o + j * 6 + 5, none⟩ = some y5) ∧ SpV w S (.agg #[y0, y1, y2, y3, y4, y5]) s)
theorem SpV.turn {w w' : World} {S : Nat → Prop} {v : Value} {s : Sp} (h : SpV w S v s) (ht : Turn S w w') : SpV w' S v s := by
  obtain ⟨A, n, c, h1, h2, h3⟩ := h
  exact ⟨A, n, c, h1, h2.turn ht, h3⟩
theorem SpV.more {w : World} {S S' : Nat → Prop} {v : Value} {s : Sp} (h : SpV w S v s) (hs : ∀ k, S' k → k < w.heap.size → S k) : SpV w S' v s := by
  obtain ⟨A, n, c, h1, h2, h3⟩ := h
  exact ⟨A, n, c, h1, h2.more hs, h3⟩
theorem Sps.turn {w w' : World} {S : Nat → Prop} {n : Nat} {A : Option Addr} {ss : List Sp} (h : Sps w S A n ss) (ht : Turn S w w') : Sps w' S A n ss :=
  ⟨h.1, fun hn => by
    obtain ⟨b, o, e, hb, hf⟩ := h.2 hn
    refine ⟨b, o, e, hb, fun j s hj => ?_⟩
    obtain ⟨y0, y1, y2, y3, y4, y5, ⟨h0, h1, h2, h3, h4, h5⟩, hv⟩ := hf j s hj
    exact ⟨y0, y1, y2, y3, y4, y5, ⟨ht.at_ h0 hb, ht.at_ h1 hb, ht.at_ h2 hb, ht.at_ h3 hb, ht.at_ h4 hb, ht.at_ h5 hb⟩, hv.turn ht⟩⟩
theorem Sps.more {w : World} {S S' : Nat → Prop} {n : Nat} {A : Option Addr} {ss : List Sp} (h : Sps w S A n ss) (hs : ∀ k, S' k → k < w.heap.size → S k) : Sps w S' A n ss :=
  ⟨h.1, fun hn => by
    obtain ⟨b, o, e, hb, hf⟩ := h.2 hn
    have hb2 : ¬ S' b := fun x => hb (hs b x (by
      obtain ⟨_, _, _, _, _, _, ⟨h0, _⟩, _⟩ := hf 0 _ (List.getElem?_eq_getElem (by have := h.1; omega))
      exact block_lt_of_cell h0))
    refine ⟨b, o, e, hb2, fun j s hj => ?_⟩
    obtain ⟨y0, y1, y2, y3, y4, y5, hc, hv⟩ := hf j s hj
    exact ⟨y0, y1, y2, y3, y4, y5, hc, hv.more hs⟩⟩
theorem sp_parts {y0 y1 y2 y3 y4 y5 : Value} {w : World} {S : Nat → Prop} {s : Sp} (h : SpV w S (.agg #[y0, y1, y2, y3, y4, y5]) s) :
    ∃ A n c, y0 = .int .i64 s.kind ∧ y1 = .string ⟨s.name.toArray⟩ ∧ y2 = .string ⟨s.to.toArray⟩ ∧ y3 = .slice A n c ∧ y4 = .int .u64 ((s.n : Nat) : Int) ∧ y5 = .int .i64 s.m ∧ BytS w S A n s.data ∧ (A = none → n = 0 ∧ c = 0) ∧ n ≤ c ∧ c ≤ maxLen := by
  obtain ⟨A, n, c, e, h1⟩ := h
  have e2 : y0 = .int .i64 s.kind ∧ y1 = .string ⟨s.name.toArray⟩ ∧ y2 = .string ⟨s.to.toArray⟩ ∧ y3 = .slice A n c ∧ y4 = .int .u64 ((s.n : Nat) : Int) ∧ y5 = .int .i64 s.m := by simpa [spV] using e
  exact ⟨A, n, c, e2.1, e2.2.1, e2.2.2.1, e2.2.2.2.1, e2.2.2.2.2.1, e2.2.2.2.2.2, h1⟩

def smallS (s : Sp) : Bool := decide (s.data.length ≤ 200) && (decide (s.name.length ≤ 100) && decide (s.to.length ≤ 100))
def largeS (ss : List Sp) : Bool := !((ss.take 90).all smallS) || decide (90 < ss.length)
theorem largeS_false (ss : List Sp) (h : largeS ss = false) : ss.length ≤ 90 ∧ ∀ s ∈ ss, s.data.length ≤ 200 ∧ s.name.length ≤ 100 ∧ s.to.length ≤ 100 := by
  unfold largeS at h
  rw [Bool.or_eq_false_iff] at h
  obtain ⟨h1, h2⟩ := h
  have h3 : ss.length ≤ 90 := by
    have := of_decide_eq_false h2
    omega
  refine ⟨h3, fun s hs => ?_⟩
  rw [List.take_of_length_le h3] at h1
  have h4 : ss.all smallS = true := by simpa using h1
  have := List.all_eq_true.1 h4 s hs
  simpa [smallS] using this
theorem largeS_out (ss : List Sp) (k : Nat) (s : Sp) (hk : k < 90) (hs : ss[k]? = some s) (h : smallS s = false) : largeS ss = true := by
  unfold largeS
  have : (ss.take 90).all smallS = false := by
    rw [List.all_eq_false]
    exact ⟨s, List.mem_of_getElem? (i := k) (by rw [List.getElem?_take_of_lt hk]; exact hs), by simp [h]⟩
  rw [this]
  rfl
theorem largeS_end (ss : List Sp) (k : Nat) (h : (ss.take k).all smallS = true) (hk : k = ss.length ∧ k ≤ 90 ∨ k = 90) : largeS ss = decide (90 < ss.length) := by
  unfold largeS
  have : (ss.take 90).all smallS = true := by
    rcases hk with ⟨rfl, h2⟩ | rfl
    · rw [List.take_of_length_le h2]
      rw [List.take_length] at h
      exact h
    · exact h
  rw [this]
  rfl

end Go.Proofs.Ytikghnbhbehepaa
