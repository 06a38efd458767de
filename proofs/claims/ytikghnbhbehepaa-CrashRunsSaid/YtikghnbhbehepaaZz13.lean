/-
  The program's disk in memory: each file in blocks of its own, told by a map.
-/
import Derived.Test.YtikghnbhbehepaaZz9
import Derived.Test.YtikghnbhbehepaaZz4
import Derived.Test.YtikghnbhbehepaaZz12
import Derived.Test.YtikghnbhbehepaaZz11
import Derived.BigRegion
import Derived.Carry
import Derived.Maps.RangeWalk
import Derived.Sort.KeysCollected
namespace Go.Proofs.Ytikghnbhbehepaa
open Go.RowKit
set_option linter.unusedVariables false
set_option linter.unusedSimpArgs false

/-- A file as it lies: its block, where its bytes are, how many there may be. -/
structure FM where
  f : Fl
  g : Nat
  A : Option Addr
  c : Nat
def FM.blks (x : FM) (k : Nat) : Prop := k = x.g ∨ ∃ a, x.A = some a ∧ k = a.block
def FM.at_ (w : World) (x : FM) : Prop :=
  Blk w x.g 79 [.slice x.A x.f.data.length x.c, .int .i64 ((x.f.sure : Nat) : Int)] ∧ w.ownsRow 0 5 1 (.slice x.A x.f.data.length x.c) x.f.data.length (x.f.data.map bv)
theorem own_turn {w w' : World} {T : Nat → Prop} {base : Nat} {e : TypeId} {size : Nat} {A : Option Addr} {n c : Nat} {xs : List Value} (h : w.ownsRow base e size (.slice A n c) n xs) (ht : Turn T w w') (hn : ∀ a, A = some a → ¬ T a.block) : w'.ownsRow base e size (.slice A n c) n xs := by
  rcases h with ⟨h1, h2⟩
  refine ⟨h1, ?_⟩
  rcases h2 with h2 | ⟨g, cap, cur, hv, hg, hh, r⟩
  · exact .inl h2
  · refine .inr ⟨g, cap, cur, hv, hg, ?_, r⟩
    injection hv with hA
    exact (ht.block g (Array.getElem?_eq_some_iff.1 hh).1 (hn _ hA)).trans hh
theorem FM.turn {w w' : World} {T : Nat → Prop} {x : FM} (h : x.at_ w) (ht : Turn T w w') (hn : ∀ k, x.blks k → ¬ T k) : x.at_ w' :=
  ⟨ht.blk h.1 (hn _ (.inl rfl)), own_turn h.2 ht fun a ha => hn _ (.inr ⟨a, ha, rfl⟩)⟩
theorem FM.form {w : World} {x : FM} (h : x.at_ w) : (x.A = none → x.f.data.length = 0 ∧ x.c = 0) ∧ x.f.data.length ≤ x.c ∧ x.c ≤ maxLen := by
  obtain ⟨A, c, e, h1, h2, h3⟩ := own_form h.2
  injection e with e1 e2 e3
  subst e1 e3
  exact ⟨h1, h2, h3⟩
theorem FM.byt {w : World} {x : FM} (h : x.at_ w) : Byt w w.heap.size x.A x.f.data.length x.f.data := Byt.of_own h.2

/-- A file for each name: all in memory; in blocks of S, none shared. -/
def AtG (w : World) (G : List UInt8 → Option FM) : Prop := ∀ s x, G s = some x → x.at_ w
structure SepG (S : Nat → Prop) (q mb : Nat) (G : List UInt8 → Option FM) : Prop where
  inS : ∀ s x k, G s = some x → x.blks k → S k ∧ k ≠ q ∧ k ≠ mb
  apart : ∀ s t x y k, s ≠ t → G s = some x → G t = some y → x.blks k → ¬ y.blks k
  two : ∀ s x a, G s = some x → x.A = some a → a.block ≠ x.g
def upG (G : List UInt8 → Option FM) (s : List UInt8) (y : FM) : List UInt8 → Option FM := fun t => if t = s then some y else G t
def dnG (G : List UInt8 → Option FM) (s : List UInt8) : List UInt8 → Option FM := fun t => if t = s then none else G t
theorem AtG.turn {w w' : World} {T : Nat → Prop} {G : List UInt8 → Option FM} (h : AtG w G) (ht : Turn T w w') (hn : ∀ s x k, G s = some x → x.blks k → ¬ T k) : AtG w' G := fun s x hx => FM.turn (h s x hx) ht fun k hk => hn s x k hx hk
theorem AtG.up {w w' : World} {T : Nat → Prop} {G : List UInt8 → Option FM} {s : List UInt8} {y : FM} (h : AtG w G) (ht : Turn T w w') (hn : ∀ t x k, t ≠ s → G t = some x → x.blks k → ¬ T k) (hy : y.at_ w') : AtG w' (upG G s y) := by
  intro t x hx
  unfold upG at hx
  split at hx
  · cases hx
    exact hy
  · rename_i hts
    exact FM.turn (h t x hx) ht fun k hk => hn t x k hts hx hk
theorem AtG.dn {w : World} {G : List UInt8 → Option FM} {s : List UInt8} (h : AtG w G) : AtG w (dnG G s) := by
  intro t x hx
  unfold dnG at hx
  split at hx
  · cases hx
  · exact h t x hx
theorem SepG.less {S S' : Nat → Prop} {q mb : Nat} {G : List UInt8 → Option FM} (h : SepG S q mb G) (hs : ∀ k, S k → S' k) : SepG S' q mb G :=
  ⟨fun s x k hx hk => by have := h.inS s x k hx hk; exact ⟨hs k this.1, this.2⟩, h.apart, h.two⟩
theorem SepG.up {S S' : Nat → Prop} {q mb : Nat} {G : List UInt8 → Option FM} {s : List UInt8} {y : FM} (h : SepG S q mb G) (hs : ∀ k, S k → S' k) (h1 : ∀ k, y.blks k → S' k ∧ k ≠ q ∧ k ≠ mb) (h2 : ∀ t x k, t ≠ s → G t = some x → x.blks k → ¬ y.blks k) (h3 : ∀ a, y.A = some a → a.block ≠ y.g) : SepG S' q mb (upG G s y) := by
  refine ⟨fun t x k hx hk => ?_, fun t u x z k htu hx hz hk hk2 => ?_, fun t x a hx ha => ?_⟩
  · unfold upG at hx
    split at hx
    · cases hx
      exact h1 k hk
    · have := h.inS t x k hx hk
      exact ⟨hs k this.1, this.2⟩
  · unfold upG at hx hz
    split at hx <;> split at hz
    · rename_i e1 e2
      exact htu (e1.trans e2.symm)
    · rename_i e1 e2
      cases hx
      exact h2 u z k e2 hz hk2 hk
    · rename_i e1 e2
      cases hz
      exact h2 t x k e1 hx hk hk2
    · exact h.apart t u x z k htu hx hz hk hk2
  · unfold upG at hx
    split at hx
    · cases hx
      exact h3 a ha
    · exact h.two t x a hx ha
theorem SepG.dn {S : Nat → Prop} {q mb : Nat} {G : List UInt8 → Option FM} {s : List UInt8} (h : SepG S q mb G) : SepG S q mb (dnG G s) := by
  refine ⟨fun t x k hx hk => ?_, fun t u x z k htu hx hz hk hk2 => ?_, fun t x a hx ha => ?_⟩
  · unfold dnG at hx
    split at hx
    · cases hx
    · exact h.inS t x k hx hk
  · unfold dnG at hx hz
    split at hx
    · cases hx
    · split at hz
      · cases hz
      · exact h.apart t u x z k htu hx hz hk hk2
  · unfold dnG at hx
    split at hx
    · cases hx
    · exact h.two t x a hx ha

/-- Look-ups of a map's list. -/
theorem lookM_cons (t : List UInt8) (p : List UInt8 × Value) (r : List (List UInt8 × Value)) : lookM t (p :: r) = if p.1 = t then some p.2 else lookM t r := by
  unfold lookM
  rw [List.find?_cons]
  by_cases h : p.1 = t
  · simp [h]
  · have : (p.1 == t) = false := by simpa using h
    rw [this, if_neg h]
theorem lookM_del (t s : List UInt8) (L : List (List UInt8 × Value)) : lookM t (delM s L) = if t = s then none else lookM t L := by
  induction L with
  | nil => show none = _; split <;> rfl
  | cons y r ih =>
    have e : delM s (y :: r) = (if y.1 = s then [] else [y]) ++ delM s r := by
      unfold delM
      by_cases h : y.1 = s <;> simp [h]
    rw [e]
    by_cases h : y.1 = s
    · rw [if_pos h, List.nil_append, ih, lookM_cons]
      by_cases ht : t = s
      · rw [if_pos ht, if_pos ht]
      · rw [if_neg ht, if_neg ht, if_neg (fun e => ht (e.symm.trans h))]
    · rw [if_neg h]
      show lookM t (y :: delM s r) = _
      rw [lookM_cons, lookM_cons, ih]
      by_cases ht : t = s
      · rw [if_pos ht, if_pos ht, if_neg (fun e => h (e.trans ht))]
      · rw [if_neg ht, if_neg ht]
theorem lookM_ins (t : List UInt8) (x : List UInt8 × Value) (L : List (List UInt8 × Value)) (h : lookM x.1 L = none) : lookM t (insM x L) = if t = x.1 then some x.2 else lookM t L := by
  induction L with
  | nil =>
    show lookM t [x] = _
    rw [lookM_cons]
    by_cases e : t = x.1
    · rw [if_pos e, if_pos e.symm]
    · rw [if_neg e, if_neg (fun a => e a.symm)]
  | cons y r ih =>
    rw [lookM_cons] at h
    have hy : ¬ y.1 = x.1 := fun e => by rw [if_pos e] at h; cases h
    rw [if_neg hy] at h
    show lookM t (if bytesBefore x.1 y.1 then x :: y :: r else y :: insM x r) = _
    split
    · rw [lookM_cons]
      by_cases e : t = x.1
      · rw [if_pos e, if_pos e.symm]
      · rw [if_neg e, if_neg (fun a => e a.symm)]
    · rw [lookM_cons, lookM_cons, ih h]
      by_cases e : t = x.1
      · rw [if_pos e, if_pos e, if_neg (fun a => hy (a.trans e))]
      · rw [if_neg e, if_neg e]
theorem lookM_put (t s : List UInt8) (v : Value) (L : List (List UInt8 × Value)) : lookM t (putM s v L) = if t = s then some v else lookM t L := by
  unfold putM
  rw [lookM_ins t (s, v) _ (by rw [lookM_del, if_pos rfl]), lookM_del]
  by_cases h : t = s
  · rw [if_pos h, if_pos h]
  · rw [if_neg h, if_neg h, if_neg h]
theorem lookM_mem (t : List UInt8) (L : List (List UInt8 × Value)) : t ∈ L.map (·.1) ↔ (lookM t L).isSome = true := by
  induction L with
  | nil => simp [lookM]
  | cons y r ih =>
    rw [lookM_cons, List.map_cons, List.mem_cons, ih]
    by_cases h : y.1 = t
    · simp [h]
    · rw [if_neg h]
      constructor
      · rintro (e | e)
        · exact absurd e.symm h
        · exact e
      · exact .inr
theorem look_mem_iff (t : List UInt8) (l : List Fl) : t ∈ l.map Fl.name ↔ (lookF t l).isSome = true := by
  induction l with
  | nil => simp [lookF]
  | cons y r ih =>
    rw [look_cons, List.map_cons, List.mem_cons, ih]
    by_cases h : y.name = t
    · simp [h]
    · rw [if_neg h]
      constructor
      · rintro (e | e)
        · exact absurd e.symm h
        · exact e
      · exact .inr

/-- The map, the files in memory, and the files of the disk tell the same. -/
structure Tied (L : List (List UInt8 × Value)) (G : List UInt8 → Option FM) (fs : List Fl) : Prop where
  look : ∀ s, lookM s L = (G s).map fun x => Value.pointer (some ⟨x.g, 0, none⟩)
  file : ∀ s, lookF s fs = (G s).map FM.f
theorem Tied.no {L : List (List UInt8 × Value)} {G : List UInt8 → Option FM} {fs : List Fl} (h : Tied L G fs) {s : List UInt8} (hs : lookF s fs = none) : G s = none ∧ lookM s L = none := by
  have h1 := h.file s
  rw [hs] at h1
  have h2 : G s = none := by
    cases hg : G s
    · rfl
    · rw [hg] at h1; cases h1
  exact ⟨h2, by rw [h.look, h2]; rfl⟩
theorem Tied.yes {L : List (List UInt8 × Value)} {G : List UInt8 → Option FM} {fs : List Fl} (h : Tied L G fs) {s : List UInt8} {f : Fl} (hs : lookF s fs = some f) : ∃ x, G s = some x ∧ x.f = f ∧ lookM s L = some (.pointer (some ⟨x.g, 0, none⟩)) := by
  have h1 := h.file s
  rw [hs] at h1
  cases hg : G s with
  | none => rw [hg] at h1; cases h1
  | some x =>
    rw [hg] at h1
    exact ⟨x, rfl, (Option.some.inj h1).symm, by rw [h.look, hg]; rfl⟩
theorem Tied.looked {L : List (List UInt8 × Value)} {G : List UInt8 → Option FM} {fs : List Fl} (h : Tied L G fs) {s : List UInt8} {v : Value} (hs : lookM s L = some v) : ∃ x, G s = some x ∧ v = .pointer (some ⟨x.g, 0, none⟩) ∧ lookF s fs = some x.f := by
  have h1 := h.look s
  rw [hs] at h1
  cases hg : G s with
  | none => rw [hg] at h1; cases h1
  | some x =>
    rw [hg] at h1
    exact ⟨x, rfl, Option.some.inj h1, by rw [h.file, hg]; rfl⟩
theorem Tied.put {L : List (List UInt8 × Value)} {G : List UInt8 → Option FM} {fs : List Fl} {y : FM} {s : List UInt8} (h : Tied L G fs) (hy : y.f.name = s) : Tied (putM s (.pointer (some ⟨y.g, 0, none⟩)) L) (upG G s y) (withF y.f false fs) := by
  refine ⟨fun t => ?_, fun t => ?_⟩
  · rw [lookM_put, h.look]
    unfold upG
    split <;> rfl
  · rw [look_with, h.file, hy]
    unfold upG
    split <;> rfl
theorem Tied.set {L : List (List UInt8 × Value)} {G : List UInt8 → Option FM} {fs : List Fl} {x y : FM} {s : List UInt8} (h : Tied L G fs) (hx : G s = some x) (hg : y.g = x.g) (hy : y.f.name = s) : Tied L (upG G s y) (withF y.f false fs) := by
  refine ⟨fun t => ?_, fun t => ?_⟩
  · rw [h.look]
    unfold upG
    split
    · rename_i e
      show (G t).map _ = some (Value.pointer (some ⟨y.g, 0, none⟩))
      rw [e, hx, hg]; rfl
    · rfl
  · rw [look_with, h.file, hy]
    unfold upG
    split <;> rfl
theorem Tied.del {L : List (List UInt8 × Value)} {G : List UInt8 → Option FM} {fs : List Fl} {s : List UInt8} (h : Tied L G fs) : Tied (delM s L) (dnG G s) (withoutF s fs) := by
  refine ⟨fun t => ?_, fun t => ?_⟩
  · rw [lookM_del, h.look]
    unfold dnG
    split <;> rfl
  · rw [look_without, h.file]
    unfold dnG
    split <;> rfl

theorem srt_nodup (l : List Fl) (h : SrtF l) : (l.map Fl.name).Nodup := by
  unfold List.Nodup
  rw [List.pairwise_map]
  refine List.Pairwise.imp (fun {a b} hab => ?_) h
  intro e
  rw [e, bl_irrefl] at hab
  cases hab
theorem MapS.nodup {w : World} {b : Nat} {L : List (List UInt8 × Value)} {P : Program} {k : TypeId} (h : MapS w P k b L) (K : Maps.Keyed P k) : (L.map (·.1)).Nodup := by
  obtain ⟨es, he, hp, _⟩ := World.ownsMap.entries h K
  have e2 : mapE L = es := by
    unfold mapD at he
    exact DataW.map.inj he
  subst e2
  unfold mapE at hp
  rw [List.pairwise_map] at hp
  unfold List.Nodup
  rw [List.pairwise_map]
  exact List.Pairwise.imp (fun {a b} hab e => hab (by show Lit.string a.1 = Lit.string b.1; rw [e])) hp
theorem tied_perm {w : World} {b : Nat} {L : List (List UInt8 × Value)} {P : Program} {k : TypeId} {G : List UInt8 → Option FM} {fs : List Fl} (h : MapS w P k b L) (K : Maps.Keyed P k) (hT : Tied L G fs) (hs : SrtF fs) : (L.map (·.1)).Perm (fs.map Fl.name) := by
  rw [List.perm_ext_iff_of_nodup (h.nodup K) (srt_nodup fs hs)]
  intro a
  rw [lookM_mem, look_mem_iff, hT.look, hT.file, Option.isSome_map, Option.isSome_map]

/-- The block of the disk itself; l, k: what it is armed with, if it is. -/
def dpL (m : Dk) (mb l : Nat) (k : Int) : List Value := [.int .i64 m.cap, .map (some mb), .int .u64 ((m.calls : Nat) : Int), .bool m.armed, .int .u64 ((l : Nat) : Int), .int .i64 k, .bool m.down]
/-- Block q is the program's disk m, S its blocks; mb its map. -/
structure PDat (w : World) (S : Nat → Prop) (q : Nat) (m : Dk) (mb l : Nat) (kp : Int) (L : List (List UInt8 × Value)) (G : List UInt8 → Option FM) : Prop where
  blk : Blk w q 63 (dpL m mb l kp)
  arm : m.armed = true → l = m.left ∧ kp = m.keep
  left : l < 18446744073709551616
  map : MapS w Try.prog 9 mb L
  tied : Tied L G m.files
  at_ : AtG w G
  sep : SepG S q mb G
  srt : SrtF m.files
  ne : q ≠ mb
  sq : S q
  sm : S mb
  lt : ∀ k, S k → k < w.heap.size
def PD (w : World) (S : Nat → Prop) (q : Nat) (m : Dk) : Prop := ∃ mb l kp L G, PDat w S q m mb l kp L G

section
variable {w w' : World} {S S' T : Nat → Prop} {q mb l : Nat} {m : Dk} {kp : Int} {L : List (List UInt8 × Value)} {G : List UInt8 → Option FM}
theorem MapS.turn {P : Program} {k : TypeId} (h : MapS w P k mb L) (ht : Turn T w w') (hn : ¬ T mb) : MapS w' P k mb L := by
  obtain ⟨es, clock, hbb, F, hs, hD⟩ := h
  exact ⟨es, clock, (ht.block mb (Array.getElem?_eq_some_iff.1 hbb).1 hn).trans hbb, F, hs, hD⟩
theorem PDat.turn (h : PDat w S q m mb l kp L G) (ht : Turn T w w') (hn : ∀ k, T k → ¬ S k) : PDat w' S q m mb l kp L G :=
  ⟨ht.blk h.blk (fun e => hn q e h.sq), h.arm, h.left, h.map.turn ht (fun e => hn mb e h.sm), h.tied, h.at_.turn ht (fun s x k hx hk e => hn k e (h.sep.inS s x k hx hk).1), h.sep, h.srt, h.ne, h.sq, h.sm, fun k hk => Nat.lt_of_lt_of_le (h.lt k hk) ht.size⟩
theorem PDat.below (h : PDat w S q m mb l kp L G) (hb : Below w.heap.size w w') : PDat w' S q m mb l kp L G := h.turn (Turn.of_below hb : Turn (fun _ => False) w w') (fun k hk => hk.elim)
theorem PDat.more (h : PDat w S q m mb l kp L G) (hs : ∀ k, S k → S' k) (hl : ∀ k, S' k → k < w.heap.size) : PDat w S' q m mb l kp L G :=
  ⟨h.blk, h.arm, h.left, h.map, h.tied, h.at_, h.sep.less hs, h.srt, h.ne, hs q h.sq, hs mb h.sm, hl⟩
theorem PD.turn (h : PD w S q m) (ht : Turn T w w') (hn : ∀ k, T k → ¬ S k) : PD w' S q m := by
  obtain ⟨mb, l, kp, L, G, h⟩ := h
  exact ⟨mb, l, kp, L, G, h.turn ht hn⟩
theorem PD.below (h : PD w S q m) (hb : Below w.heap.size w w') : PD w' S q m := h.turn (Turn.of_below hb : Turn (fun _ => False) w w') (fun k hk => hk.elim)
theorem PDat.len (h : PDat w S q m mb l kp L G) : L.length = m.files.length := by
  have := (tied_perm h.map (Maps.string_keyed Try.underlying9) h.tied h.srt).length_eq
  simpa using this
/-- Only the disk's own block turned: another disk with the same files. -/
theorem PDat.cells (h : PDat w S q m mb l kp L G) {m' : Dk} {l' : Nat} {kp' : Int} (ht : Turn (fun k => k = q) w w') (hb : Blk w' q 63 (dpL m' mb l' kp')) (hf : m'.files = m.files) (ha : m'.armed = true → l' = m'.left ∧ kp' = m'.keep) (hl : l' < 18446744073709551616) : PDat w' S q m' mb l' kp' L G :=
  ⟨hb, ha, hl, h.map.turn ht (fun e => h.ne e.symm), by rw [hf]; exact h.tied, h.at_.turn ht (fun s x k hx hk e => (h.sep.inS s x k hx hk).2.1 e), h.sep, by rw [hf]; exact h.srt, h.ne, h.sq, h.sm, fun k hk => Nat.lt_of_lt_of_le (h.lt k hk) ht.size⟩
end

/-- 'append(out, src...)' of bytes onto a row of one's own, and where it lies behind it. -/
theorem run_append_byt_at {P : Program} (w : World) (base : Nat) (t ty e : TypeId) (i : TypeInfo) (z : Value) (ht : P.underlying t = some (.slice e)) (hi : P.info? e = some i) (hz : i.zero = some z)
    (hsize : i.size = 1) (hby : i.bytes = 1) (hzs : z.cells.size = 1)
    (v : Value) (n : Nat) (xs : List Value) (hown : w.ownsRow base e 1 v n xs)
    (B : Nat) (A : Option Addr) (m c : Nat) (l : List UInt8) (hr : Byt w B A m l) (hnil : A = none → c = 0)
    (h47 : n + m ≤ 140737488355328) (hbase : base ≤ w.heap.size) :
    ∃ v' w', (Builtin.append_ #[t, t] ty #[v, .slice A m c]).run P w = .ok v' w' ∧ w'.ownsRow base e 1 v' (n + m) (xs ++ l.map bv) ∧ w.grownBy w' v.ownBlock ∧ (v'.ownBlock = v.ownBlock ∨ v'.ownBlock = some w.heap.size) := by
  by_cases hm : m = 0
  · subst hm
    have hl : l = [] := List.eq_nil_of_length_eq_zero hr.1
    subst hl
    rcases A with _ | ad
    · obtain rfl := hnil rfl
      exact ⟨v, w, run_append_owned_none (P := P) w base t ty e i 1 ht hi v n xs hown, by simpa using hown, World.grownBy.refl w _, .inl rfl⟩
    · obtain ⟨v', w', hrun, h2, h3, _, h5⟩ := run_append_own_at (P := P) w base t ty e i z 1 1 ht hi hz hsize hby hzs (by decide) v n xs hown ad 0 c [] rfl (by simp) (by simp) (by unfold maxLen; omega) (by omega) hbase
      exact ⟨v', w', hrun, h2, h3, h5⟩
  · obtain ⟨b, o, rfl, hb, hc⟩ := hr.2 (by omega)
    obtain ⟨v', w', hrun, h2, h3, _, h5⟩ := run_append_own_at (P := P) w base t ty e i z 1 1 ht hi hz hsize hby hzs (by decide) v n xs hown ⟨b, o, none⟩ m c (l.map bv) (by simp [hr.1])
      (by
        intro j u hu
        rw [Addr.add_lit]
        rw [List.getElem?_map] at hu
        obtain ⟨x, hx, rfl⟩ := Option.map_eq_some_iff.1 hu
        exact hc j x hx) (bvs_one l) (by unfold maxLen; omega) (by omega) hbase
    exact ⟨v', w', hrun, h2, h3, h5⟩
theorem wpList_append_byt_at {P : Program} (w : World) {ops : Array Oper} {rest : List Oper} {o : Oper} {a : Act} {Q : Exit → Act → World → Prop} (hgd : Region.wanted o (yielded ops a.tmps) = true) (s x : Operand) (t : TypeId)
    (ho : o.op = .call { callee := .builtin .append, args := #[s, x], argTypes := #[t, t] })
    (base : Nat) (e : TypeId) (i : TypeInfo) (z : Value) (ht : P.underlying t = some (.slice e)) (hi : P.info? e = some i) (hz : i.zero = some z)
    (hsize : i.size = 1) (hby : i.bytes = 1) (hzs : z.cells.size = 1)
    (v : Value) (n : Nat) (xs : List Value) (hs : a.eval s = v) (hown : w.ownsRow base e 1 v n xs)
    (B : Nat) (A : Option Addr) (m c : Nat) (l : List UInt8) (hx : a.eval x = .slice A m c) (hr : Byt w B A m l) (hnil : A = none → c = 0)
    (h47 : n + m ≤ 140737488355328) (hbase : base ≤ w.heap.size)
    (h : ∀ v' w', w'.ownsRow base e 1 v' (n + m) (xs ++ l.map bv) → w.grownBy w' v.ownBlock → (v'.ownBlock = v.ownBlock ∨ v'.ownBlock = some w.heap.size) → wpList P ops Q rest (a.put o.dst v') w') : wpList P ops Q (o :: rest) a w := by
  refine BigFrame.wpList_want hgd fun K hK => ?_
  obtain ⟨v', w', hr, h2, h3, h4⟩ := run_append_byt_at (P := P) w base t o.type e i z ht hi hz hsize hby hzs v n xs hown B A m c l hr hnil h47 hbase
  unfold Oper.wp execOp
  simp only [ho, resolve, invoke, builtin, Sem.run_bind, Sem.run_pure, Result.andThen_ok, List.map_toArray, List.map_cons, List.map_nil, hs, hx, hr]
  exact hK _ _ (h v' w' h2 h3 h4)

end Go.Proofs.Ytikghnbhbehepaa

/-
  The statements of the disk: is the program awake?
-/
namespace Go.Proofs.Ytikghnbhbehepaa
open Go.RowKit
set_option linter.unusedVariables false
set_option linter.unusedSimpArgs false

theorem BytS.new {w : World} {S : Nat → Prop} {l : List UInt8} {C : Array Value} (hC : C.toList = l.map bv) (e : TypeId) (fr : Nat × Nat) (n : Nat) (hn : l.length = n) (hS : ¬ S w.heap.size) : BytS (w.alloc (.cells C e fr)) S (some ⟨w.heap.size, 0, none⟩) n l := by
  refine ⟨hn, fun _ => ⟨_, _, rfl, hS, fun j x hx => ?_⟩⟩
  rw [Nat.zero_add, World.cell?_alloc_mark, ← Array.getElem?_toList, hC, List.getElem?_map, hx]
  rfl
theorem OkD.more {k k' : Nat} {m : Dk} (h : OkD k m) (hk : k ≤ k') : OkD k' m := ⟨by have := h.len; omega, by have := h.size; omega, h.sure, by have := h.calls; omega, h.left, h.cap⟩
theorem new_ok (cap : Int) (h : cap < 9223372036854775808) : OkD 0 (newD cap) := ⟨Nat.le_refl _, Nat.le_refl _, fun f hf => (by cases hf), Nat.le_refl _, by show (0 : Nat) < _; omega, by show 0 ≤ max cap 0 ∧ max cap 0 < _; omega⟩

/-- The example's disks. -/
def aw0 : Dk := newD 9
def aw1 : Dk := (doD aw0 ⟨1, [97], [], [120, 121, 122], 0, 0⟩).2
def aw2 : Dk := (doD aw1 ⟨2, [97], [], [], 0, 0⟩).2
def aw3 : Dk := (doD aw2 ⟨1, [97], [], [117, 118], 0, 0⟩).2
def aw4 : Dk := crashD 1 aw3
theorem tar97 : targetB [97] = true := by decide +kernel
theorem aw1_eq : aw1 = ⟨[⟨[97], [120, 121, 122], 0⟩], 9, 1, false, 0, 0, false⟩ := by
  unfold aw1 aw0
  rw [do_call _ _ rfl rfl]
  unfold callD
  rw [tar97]
  rfl
theorem aw2_eq : aw2 = ⟨[⟨[97], [120, 121, 122], 3⟩], 9, 2, false, 0, 0, false⟩ := by
  unfold aw2
  rw [aw1_eq, do_call _ _ rfl rfl]
  unfold callD
  rw [tar97]
  rfl
theorem aw3_eq : aw3 = ⟨[⟨[97], [120, 121, 122, 117, 118], 3⟩], 9, 3, false, 0, 0, false⟩ := by
  unfold aw3
  rw [aw2_eq, do_call _ _ rfl rfl]
  unfold callD
  rw [tar97]
  rfl
theorem aw4_eq : aw4 = ⟨[⟨[97], [120, 121, 122, 117], 4⟩], 9, 3, false, 0, 0, true⟩ := by
  unfold aw4
  rw [aw3_eq]
  rfl

end Go.Proofs.Ytikghnbhbehepaa

/-
  The program's disk: what asks its own block alone, and turns it.
-/
namespace Go.Proofs.Ytikghnbhbehepaa
open Go.RowKit
set_option linter.unusedVariables false
set_option linter.unusedSimpArgs false

section
variable {w : World} {S : Nat → Prop} {q mb l : Nat} {m : Dk} {kp : Int} {L : List (List UInt8 × Value)} {G : List UInt8 → Option FM}
theorem dp_there {w : World} {q : Nat} {t : TypeId} {cs : List Value} (h : Blk w q t cs) (o n : Nat) (hn : o + n ≤ cs.length) : w.there q o n := fun j hj =>
  ⟨by rw [h.cell, List.getElem?_eq_getElem (by omega)]; rfl, h.frozen _⟩

set_option maxRecDepth 100000 in
set_option maxHeartbeats 2000000 in
theorem pdown_any (W : World) (h : PDat W S q m mb l kp L G) :
    Calls Try.prog 20 #[.pointer (some ⟨q, 0, none⟩)] W fun e W' => e = .returned (.bool m.down) ∧ W' = W := by
  have c6 : W.cell? ⟨q, 6, none⟩ = some (.bool m.down) := h.blk.cell 6
  obtain ⟨d, hd⟩ : ∃ d, m.down = d := ⟨_, rfl⟩
  rw [hd] at c6 ⊢
  clear h hd
  go_enter Try.func20, Try.ntmps20
  go_wp2
  go_ret
  exact ⟨rfl, rfl⟩

set_option maxRecDepth 100000 in
set_option maxHeartbeats 2000000 in
theorem parm_any (W : World) (n : Nat) (keep : Int) (hn : n < 18446744073709551616) (h : PDat W S q m mb l kp L G) :
    Calls Try.prog 12 #[.pointer (some ⟨q, 0, none⟩), .int .u64 ((n : Nat) : Int), .int .i64 keep] W fun e W' => e = .returned (.tuple #[]) ∧ PDat W' S q ⟨m.files, m.cap, m.calls, true, n, keep, m.down⟩ mb n keep L G ∧ Turn (fun k => k = q) W W' := by
  have hth : W.there q 3 3 := dp_there h.blk 3 3 (by show 6 ≤ 7; omega)
  have HH := Lib.hid h
  clear h
  go_enter Try.func12, Try.ntmps12
  go_wp2_with (refine wpList_store_list rfl 61 _ _ rfl q 3 [.bool true, .int .u64 ((n : Nat) : Int), .int .i64 keep] rfl rfl hth (by kernel_rfl) (by simp [Value.oneCell']) ?_)
  go_end0
  have hB := ((HH.out.blk.set 3 (.bool true)).set 4 (.int .u64 ((n : Nat) : Int))).set 5 (.int .i64 keep)
  have ht : Turn (fun k => k = q) W (((W.setCell ⟨q, 3, none⟩ (.bool true)).setCell ⟨q, 4, none⟩ (.int .u64 ((n : Nat) : Int))).setCell ⟨q, 5, none⟩ (.int .i64 keep)) :=
    (((Turn.refl (fun k => k = q) W).setCell (p := ⟨q, 3, none⟩) rfl _).setCell (p := ⟨q, 4, none⟩) rfl _).setCell (p := ⟨q, 5, none⟩) rfl _
  exact ⟨rfl, HH.out.cells ht hB rfl (fun _ => ⟨rfl, rfl⟩) hn, ht⟩
end

end Go.Proofs.Ytikghnbhbehepaa

/-
  The program's disk: a file's bytes, a file cut off, a disk made.
-/
namespace Go.Proofs.Ytikghnbhbehepaa
open Go.RowKit
set_option linter.unusedVariables false
set_option linter.unusedSimpArgs false

theorem Try.infoByte : (Try.prog.info? 5).map (fun i => (i.zero, i.size, i.bytes)) = some (some (.int .u8 0), 1, 1) := by kernel_rfl

set_option maxRecDepth 100000 in
set_option maxHeartbeats 2000000 in
theorem pbytes_any (x : FM) (W : World) (h : x.at_ W) (hl : x.f.data.length ≤ 100000) :
    Calls Try.prog 38 #[.pointer (some ⟨x.g, 0, none⟩)] W fun e W' => ∃ v, e = .returned v ∧ W'.ownsRow W.heap.size 5 1 v x.f.data.length (x.f.data.map bv) ∧ Below W.heap.size W W' := by
  have hB := FM.byt h
  have hF := FM.form h
  have c0 : W.cell? ⟨x.g, 0, none⟩ = some (.slice x.A x.f.data.length x.c) := h.1.cell 0
  obtain ⟨f, g, A, c⟩ := x
  dsimp only at hB hF c0 hl ⊢
  obtain ⟨l, hl2⟩ : ∃ l, f.data = l := ⟨_, rfl⟩
  rw [hl2] at hB hF c0 hl ⊢
  obtain ⟨n, hn⟩ : ∃ n, l.length = n := ⟨_, rfl⟩
  rw [hn] at hB hF c0 hl ⊢
  obtain ⟨i0, hi0, hz0, hz1, hz2⟩ := info_parts Try.infoByte
  clear h hl2 hn
  go_enter Try.func38, Try.ntmps38
  go_wp2_with (at_builtin; refine wpList_append_byt W rfl _ _ 44 rfl W.heap.size 5 i0 (.int .u8 0) Try.underlying44 hi0 hz0 hz1 hz2 rfl _ 0 [] rfl (World.ownsRow_nil _ _ _ _) W.heap.size A n c l rfl hB (fun e => (hF.1 e).2) (by omega) (Nat.le_refl _) ?_)
  intro v' w' hown hgr
  have hb : Below W.heap.size W w' := (Below.refl _ W).grown hgr (Nat.le_refl _) (fun q hq => by cases hq)
  have HO := Lib.hid hown
  clear hown hgr c0
  go_wp2
  go_ret
  exact ⟨v', rfl, by simpa using HO.out, hb⟩

/-- A file cut off. -/
def FM.cut (keep : Int) (x : FM) : FM := ⟨cutF keep x.f, x.g, x.A, x.c⟩
theorem FM.cut_blks (keep : Int) (x : FM) (k : Nat) : (x.cut keep).blks k ↔ x.blks k := Iff.rfl

theorem own_take {w : World} {base : Nat} {e : TypeId} {A : Option Addr} {n c : Nat} {xs : List Value} (h : w.ownsRow base e 1 (.slice A n c) n xs) (m : Nat) (hm : m ≤ n) : w.ownsRow base e 1 (.slice A m c) m (xs.take m) := by
  rcases h with ⟨h1, h2⟩
  refine ⟨by rw [List.length_take]; omega, ?_⟩
  rcases h2 with ⟨h2, h3⟩ | ⟨g, cap, cur, hv, hg, hh, hn, hc, hz, ht⟩
  · injection h2 with e1 e2 e3
    subst e1 e2 e3
    exact .inl ⟨by rw [show m = 0 by omega], by omega⟩
  · injection hv with e1 e2 e3
    subst e1 e3
    refine .inr ⟨g, c, cur, rfl, hg, hh, by omega, hc, hz, ?_⟩
    rw [← ht, Nat.mul_one, Nat.mul_one, List.take_take, Nat.min_eq_left hm]

set_option maxRecDepth 100000 in
set_option maxHeartbeats 2000000 in
theorem pcut_any (x : FM) (W : World) (keep : Int) (h : x.at_ W) (hl : x.f.data.length ≤ 100000) (hs : x.f.sure ≤ x.f.data.length) (hsep : ∀ a, x.A = some a → a.block ≠ x.g) :
    Calls Try.prog 39 #[.pointer (some ⟨x.g, 0, none⟩), .int .i64 keep] W fun e W' => e = .returned (.tuple #[]) ∧ (x.cut keep).at_ W' ∧ Turn (fun k => k = x.g) W W' := by
  have HH := Lib.hid h
  have HSep := Lib.hid hsep
  clear hsep
  have hF := FM.form h
  have c0 : W.cell? ⟨x.g, 0, none⟩ = some (.slice x.A x.f.data.length x.c) := h.1.cell 0
  have c1 : W.cell? ⟨x.g, 1, none⟩ = some (.int .i64 ((x.f.sure : Nat) : Int)) := h.1.cell 1
  have z0 := h.1.frozen 0
  have z1 := h.1.frozen 1
  obtain ⟨R, hR⟩ : ∃ R, leftF keep x.f = R := ⟨_, rfl⟩
  have HR := Lib.hid hR
  unfold leftF at hR
  obtain ⟨g, hg⟩ : ∃ g, x.g = g := ⟨_, rfl⟩
  obtain ⟨A, hA⟩ : ∃ A, x.A = A := ⟨_, rfl⟩
  obtain ⟨c, hc⟩ : ∃ c, x.c = c := ⟨_, rfl⟩
  obtain ⟨n, hn⟩ : ∃ n, x.f.data.length = n := ⟨_, rfl⟩
  obtain ⟨s, hs2⟩ : ∃ s, x.f.sure = s := ⟨_, rfl⟩
  rw [hg, hA, hc, hn] at c0
  rw [hg, hs2] at c1
  rw [hg] at z0 z1
  rw [hn, hs2] at hs hR
  rw [hA, hc, hn] at hF
  rw [hn] at hl
  rw [hg]
  have HX := Lib.hid (And.intro hg (And.intro hA (And.intro hc (And.intro hn hs2))))
  clear h hg hA hc hn hs2
  obtain ⟨K, hK⟩ : ∃ K, keep.toNat = K := ⟨_, rfl⟩
  rw [hK] at hR
  have hmx : (if keep < 0 then 0 else keep) = (K : Int) := by split <;> omega
  obtain ⟨D, hD⟩ : ∃ D, n - s = D := ⟨_, rfl⟩
  have hsub : (n : Int) - (s : Int) = (D : Int) := by omega
  obtain ⟨M, hM⟩ : ∃ M, min K D = M := ⟨_, rfl⟩
  have hmn : (if (D : Int) < (K : Int) then (D : Int) else (K : Int)) = (M : Int) := by split <;> omega
  have hmn2 : (if D < K then (D : Int) else (K : Int)) = (M : Int) := by split <;> omega
  have hadd : (s : Int) + (M : Int) = (R : Int) := by omega
  have hRn : R ≤ n := by omega
  clear hK hD hM hR
  go_enter Try.func39, Try.ntmps39
  go_wp2_with fail
  go_region
  have ht1 : Turn (fun k => k = g) W (W.setCell ⟨g, 1, none⟩ (.int .i64 (R : Int))).drew := ((Turn.refl (fun k => k = g) W).setCell (p := ⟨g, 1, none⟩) rfl _).drewN 1
  have hB1 : Blk (W.setCell ⟨g, 1, none⟩ (.int .i64 (R : Int))).drew g 79 [.slice A n c, .int .i64 (R : Int)] := by
    obtain ⟨e1, e2, e3, e4, e5⟩ := HX.out
    have := HH.out.1.set 1 (.int .i64 (R : Int))
    rw [e1, e2, e3, e4] at this
    exact this.drew
  have HT := Lib.hid ht1
  have HB1 := Lib.hid hB1
  have y0 := hB1.cell 0
  have y1 := hB1.cell 1
  have yz := hB1.frozen 0
  dsimp only [List.getElem?_cons_zero, List.getElem?_cons_succ] at y0 y1
  revert y0 y1 yz HT HB1
  generalize (W.setCell ⟨g, 1, none⟩ (.int .i64 (R : Int))).drew = w1
  intro HT HB1 y0 y1 yz
  have i0 : (0 : Int) ≤ (R : Int) := by omega
  have i1 : R ≤ c := by omega
  clear ht1 hB1 c0 c1 z0 z1 hmx hsub hmn hadd
  go_wp2_with fail
  go_region
  go_wp2_with fail
  go_end0
  obtain ⟨e1, e2, e3, e4, e5⟩ := HX.out
  have hB2 := (HB1.out.set 0 (.slice A R c)).drew
  have ht2 : Turn (fun k => k = g) w1 (w1.setCell ⟨g, 0, none⟩ (.slice A R c)).drew := ((Turn.refl (fun k => k = g) w1).setCell (p := ⟨g, 0, none⟩) rfl _).drewN 1
  have ht := HT.out.trans ht2
  have hlen : (x.cut keep).f.data.length = R := by
    show (x.f.data.take (leftF keep x.f)).length = R
    rw [List.length_take, HR.out, e4]
    omega
  refine ⟨rfl, ⟨?_, ?_⟩, ht⟩
  · show Blk _ x.g _ [.slice x.A (x.cut keep).f.data.length x.c, .int .i64 ((leftF keep x.f : Nat) : Int)]
    rw [hlen, HR.out, e1, e2, e3]
    exact hB2
  · rw [hlen]
    show World.ownsRow _ 0 _ 1 (.slice x.A R x.c) R ((x.f.data.take (leftF keep x.f)).map bv)
    rw [HR.out, List.map_take]
    exact own_take (own_turn HH.out.2 ht fun a ha => by rw [← e1]; exact HSep.out a ha) R (by rw [e4]; exact hRn)

set_option maxRecDepth 100000 in
set_option maxHeartbeats 2000000 in
theorem pnew_any (W : World) (cap : Int) (hcap : cap < 9223372036854775808) :
    Calls Try.prog 11 #[.int .i64 cap] W fun e W' => ∃ q S, e = .returned (.pointer (some ⟨q, 0, none⟩)) ∧ PD W' S q (newD cap) ∧ (∀ k, S k → W.heap.size ≤ k) ∧ Below W.heap.size W W' := by
  obtain ⟨M, hM⟩ : ∃ M : Int, max cap 0 = M := ⟨_, rfl⟩
  have hmx : (if cap < 0 then 0 else cap) = M := by rw [← hM]; split <;> omega
  have HM := Lib.hid hM
  have hmk := run_makeMap (P := Try.prog) 59 W
  clear hM
  go_enter Try.func11, Try.ntmps11
  go_wp2_with fail
  go_ret
  refine ⟨_, fun k => k = W.heap.size ∨ k = W.heap.size + 1, rfl, ⟨W.heap.size, 0, 0, [], fun _ => none, ?_⟩, fun k hk => by omega, ((Below.refl _ W).alloc (Nat.le_refl _) _).alloc (by simp) _⟩
  have hB : Blk ((W.alloc (.map #[] 0)).alloc (.cells #[.int .i64 M, .map (some W.heap.size), .int .u64 0, .bool false, .int .u64 0, .int .i64 0, .bool false] 63)) (W.alloc (.map #[] 0)).heap.size 63 (dpL (newD cap) W.heap.size 0 0) := by
    refine Blk.new _ _ _ ?_
    unfold dpL newD
    rw [HM.out]
    rfl
  have hs : (W.alloc (.map #[] 0)).heap.size = W.heap.size + 1 := by simp
  rw [hs] at hB
  refine ⟨hB, fun h => (by cases h), by omega, (MapS.made W Try.prog 9).alloc _, ⟨fun s => rfl, fun s => rfl⟩, fun s x h => (by cases h), ⟨fun s x k h => (by cases h), fun s t x y k _ h => (by cases h), fun s x a h => (by cases h)⟩, List.Pairwise.nil, by omega, .inr rfl, .inl rfl, fun k hk => ?_⟩
  simp
  omega

end Go.Proofs.Ytikghnbhbehepaa

/-
  A range over a map with texts as keys. No program stands here.
-/
namespace Go.Proofs.Ytikghnbhbehepaa
open Go.RowKit
open Go.Maps (Keyed)
set_option linter.unusedVariables false
set_option linter.unusedSimpArgs false

theorem look_of_at (s : List UInt8) (L : List (List UInt8 × Value)) (v : Value) (h : ∀ zd, (mapD L).atKey (.string s) zd = .held v) : lookM s L = some v := by
  have h1 := h (.held (.bool true))
  have h2 := h (.held (.bool false))
  rw [mapD_at] at h1 h2
  cases hl : lookM s L with
  | some u =>
    rw [hl] at h1
    exact congrArg some (DataW.held.inj h1)
  | none =>
    rw [hl] at h1 h2
    have e1 : Value.bool true = v := DataW.held.inj h1
    have e2 : Value.bool false = v := DataW.held.inj h2
    rw [← e2] at e1
    cases e1
theorem wpList_next_mapS {P : Program} (w : World) {ops : Array Oper} {rest : List Oper} {o : Oper} {a : Act} {Q : Exit → Act → World → Prop}
    (hg : o.guard = none) (it : Operand) (hop : o.op = Op.next it false) (k : TypeId) (hk : P.underlying k = some .string) (b r n : Nat) (L : List (List UInt8 × Value)) (left : Lit → Bool) (cnt : Nat)
    (hit : a.eval it = .pointer (some ⟨r, 0, none⟩)) (h : w.ranges P k rawR b r n (mapD L) left cnt)
    (hDone : cnt = 0 → (∀ kl, left kl = false) → wpList P ops Q rest (a.put o.dst (.tuple #[.bool false])) w)
    (hMore : ∀ (s : List UInt8) (v : Value) (w' : World) (cnt' : Nat), left (.string s) = true → lookM s L = some v → w'.ranges P k rawR b r n (mapD L) (fun z => left z && !z.sameKey (.string s)) cnt' → cnt' < cnt →
      w.grownBy w' (some r) → w'.heap.size = w.heap.size → (Instr.entry (.pointer (some ⟨r, 0, none⟩))).run P w' = .ok (.tuple #[.string ⟨s.toArray⟩, v]) w' → wpList P ops Q rest (a.put o.dst (.tuple #[.bool true, .string ⟨s.toArray⟩, v])) w') :
    wpList P ops Q (o :: rest) a w :=
  wpList_next_ranges w hg it hop k (Maps.string_keyed hk) rawR (fun l : List UInt8 => Value.string ⟨l.toArray⟩) (fun v : Value => v) (fun key kl hk2 => by obtain ⟨x, hx, _⟩ := Maps.keyOf_str hk hk2; exact ⟨x, hx⟩) (fun v y _ => ⟨v, rfl⟩)
    b r n (mapD L) left cnt hit h hDone (fun x c kl y w' cnt' hkey hlk hv hat hrg hlt hgr hsz hen => by
      obtain ⟨x', ex, rfl, _⟩ := Maps.keyOf_str hk hkey
      obtain rfl : x = x' := by
        have e := Value.string.inj ex
        simpa using congrArg (fun b : ByteArray => b.data.toList) e
      obtain rfl : y = (.held c, []) := (Option.some.inj hv).symm
      exact hMore x c w' cnt' hlk (look_of_at x L c hat) hrg hlt hgr hsz hen)
end Go.Proofs.Ytikghnbhbehepaa
