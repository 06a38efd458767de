/-
  The program's disk in memory: each file in blocks of its own, told by a map.
-/
import Derived.Test.YthjikbhjciphiaaGreatDoorZz22
import Derived.Test.YthjikbhjciphiaaGreatDoorZz15
import Derived.Test.YthjikbhjciphiaaGreatDoorZz20
import Derived.Test.YthjikbhjciphiaaGreatDoorZz17
import Derived.Test.YthjikbhjciphiaaGreatDoorZz16
import Derived.Test.YthjikbhjciphiaaGreatDoorZz21
import Derived.Lib.AppendStr
namespace Go.Proofs.YthjikbhjciphiaaGreatDoor
open Go.RowKit
set_option linter.unusedVariables false
set_option linter.unusedSimpArgs false

/-- A file as it lies: its block, where its bytes are, how many there may be. -/
structure FM where
  f : Fl
  g : Nat
  A : Option Addr
  c : Nat
def FM.blks (x : FM) (k : Nat) : Prop := k = x.g ∨ ∃ a, x.A = some a ∧ k = a.block
def FM.at_ (w : World) (x : FM) : Prop :=
  Blk w x.g 78 [.slice x.A x.f.data.length x.c, .int .i64 ((x.f.sure : Nat) : Int)] ∧ w.ownsRow 0 5 1 (.slice x.A x.f.data.length x.c) x.f.data.length (x.f.data.map bv)
theorem own_turn {w w' : World} {T : Nat → Prop} {base : Nat} {e : TypeId} {size : Nat} {A : Option Addr} {n c : Nat} {xs : List Value} (h : w.ownsRow base e size (.slice A n c) n xs) (ht : Turn T w w') (hn : ∀ a, A = some a → ¬ T a.block) : w'.ownsRow base e size (.slice A n c) n xs := by
  rcases h with ⟨h1, h2⟩
  refine ⟨h1, ?_⟩
  rcases h2 with h2 | ⟨g, cap, cur, hv, hg, hh, r⟩
  · exact .inl h2
  · refine .inr ⟨g, cap, cur, hv, hg, ?_, r⟩
    injection hv with hA
    exact (ht.block g (Array.getElem?_eq_some_iff.1 hh).1 (hn _ hA)).trans hh
theorem FM.turn {w w' : World} {T : Nat → Prop} {x : FM} (h : x.at_ w) (ht : Turn T w w') (hn : ∀ k, x.blks k → ¬ T k) : x.at_ w' :=
  ⟨ht.blk h.1 (hn _ (.inl rfl)), own_turn h.2 ht fun a ha => hn _ (.inr ⟨a, ha, rfl⟩)⟩
theorem FM.form {w : World} {x : FM} (h : x.at_ w) : (x.A = none → x.f.data.length = 0 ∧ x.c = 0) ∧ x.f.data.length ≤ x.c ∧ x.c ≤ maxLen := by
  obtain ⟨A, c, e, h1, h2, h3⟩ := own_form h.2
  injection e with e1 e2 e3
  subst e1 e3
  exact ⟨h1, h2, h3⟩
theorem FM.byt {w : World} {x : FM} (h : x.at_ w) : Byt w w.heap.size x.A x.f.data.length x.f.data := Byt.of_own h.2

/-- A file for each name: all in memory; in blocks of S, none shared. -/
def AtG (w : World) (G : List UInt8 → Option FM) : Prop := ∀ s x, G s = some x → x.at_ w
structure SepG (S : Nat → Prop) (q mb : Nat) (G : List UInt8 → Option FM) : Prop where
  inS : ∀ s x k, G s = some x → x.blks k → S k ∧ k ≠ q ∧ k ≠ mb
  apart : ∀ s t x y k, s ≠ t → G s = some x → G t = some y → x.blks k → ¬ y.blks k
  two : ∀ s x a, G s = some x → x.A = some a → a.block ≠ x.g
def upG (G : List UInt8 → Option FM) (s : List UInt8) (y : FM) : List UInt8 → Option FM := fun t => if t = s then some y else G t
def dnG (G : List UInt8 → Option FM) (s : List UInt8) : List UInt8 → Option FM := fun t => if t = s then none else G t
theorem AtG.turn {w w' : World} {T : Nat → Prop} {G : List UInt8 → Option FM} (h : AtG w G) (ht : Turn T w w') (hn : ∀ s x k, G s = some x → x.blks k → ¬ T k) : AtG w' G := fun s x hx => FM.turn (h s x hx) ht fun k hk => hn s x k hx hk
theorem AtG.up {w w' : World} {T : Nat → Prop} {G : List UInt8 → Option FM} {s : List UInt8} {y : FM} (h : AtG w G) (ht : Turn T w w') (hn : ∀ t x k, t ≠ s → G t = some x → x.blks k → ¬ T k) (hy : y.at_ w') : AtG w' (upG G s y) := by
  intro t x hx
  unfold upG at hx
  split at hx
  · cases hx
    exact hy
  · rename_i hts
    exact FM.turn (h t x hx) ht fun k hk => hn t x k hts hx hk
theorem AtG.dn {w : World} {G : List UInt8 → Option FM} {s : List UInt8} (h : AtG w G) : AtG w (dnG G s) := by
  intro t x hx
  unfold dnG at hx
  split at hx
  · cases hx
  · exact h t x hx
theorem SepG.less {S S' : Nat → Prop} {q mb : Nat} {G : List UInt8 → Option FM} (h : SepG S q mb G) (hs : ∀ k, S k → S' k) : SepG S' q mb G :=
  ⟨fun s x k hx hk => by have := h.inS s x k hx hk; exact ⟨hs k this.1, this.2⟩, h.apart, h.two⟩
theorem SepG.up {S S' : Nat → Prop} {q mb : Nat} {G : List UInt8 → Option FM} {s : List UInt8} {y : FM} (h : SepG S q mb G) (hs : ∀ k, S k → S' k) (h1 : ∀ k, y.blks k → S' k ∧ k ≠ q ∧ k ≠ mb) (h2 : ∀ t x k, t ≠ s → G t = some x → x.blks k → ¬ y.blks k) (h3 : ∀ a, y.A = some a → a.block ≠ y.g) : SepG S' q mb (upG G s y) := by
  refine ⟨fun t x k hx hk => ?_, fun t u x z k htu hx hz hk hk2 => ?_, fun t x a hx ha => ?_⟩
  · unfold upG at hx
    split at hx
    · cases hx
      exact h1 k hk
    · have := h.inS t x k hx hk
      exact ⟨hs k this.1, this.2⟩
  · unfold upG at hx hz
    split at hx <;> split at hz
    · rename_i e1 e2
      exact htu (e1.trans e2.symm)
    · rename_i e1 e2
      cases hx
      exact h2 u z k e2 hz hk2 hk
    · rename_i e1 e2
      cases hz
      exact h2 t x k e1 hx hk hk2
    · exact h.apart t u x z k htu hx hz hk hk2
  · unfold upG at hx
    split at hx
    · cases hx
      exact h3 a ha
    · exact h.two t x a hx ha
theorem SepG.dn {S : Nat → Prop} {q mb : Nat} {G : List UInt8 → Option FM} {s : List UInt8} (h : SepG S q mb G) : SepG S q mb (dnG G s) := by
  refine ⟨fun t x k hx hk => ?_, fun t u x z k htu hx hz hk hk2 => ?_, fun t x a hx ha => ?_⟩
  · unfold dnG at hx
    split at hx
    · cases hx
    · exact h.inS t x k hx hk
  · unfold dnG at hx hz
    split at hx
    · cases hx
    · split at hz
      · cases hz
      · exact h.apart t u x z k htu hx hz hk hk2
  · unfold dnG at hx
    split at hx
    · cases hx
    · exact h.two t x a hx ha

/-- Look-ups of a map's list. -/
theorem lookM_cons (t : List UInt8) (p : List UInt8 × Value) (r : List (List UInt8 × Value)) : lookM t (p :: r) = if p.1 = t then some p.2 else lookM t r := by
  unfold lookM
  rw [List.find?_cons]
  by_cases h : p.1 = t
  · simp [h]
  · have : (p.1 == t) = false := by simpa using h
    rw [this, if_neg h]
theorem lookM_del (t s : List UInt8) (L : List (List UInt8 × Value)) : lookM t (delM s L) = if t = s then none else lookM t L := by
  induction L with
  | nil => show none = _; split <;> rfl
  | cons y r ih =>
    have e : delM s (y :: r) = (if y.1 = s then [] else [y]) ++ delM s r := by
      unfold delM
      by_cases h : y.1 = s <;> simp [h]
    rw [e]
    by_cases h : y.1 = s
    · rw [if_pos h, List.nil_append, ih, lookM_cons]
      by_cases ht : t = s
      · rw [if_pos ht, if_pos ht]
      · rw [if_neg ht, if_neg ht, if_neg (fun e => ht (e.symm.trans h))]
    · rw [if_neg h]
      show lookM t (y :: delM s r) = _
      rw [lookM_cons, lookM_cons, ih]
      by_cases ht : t = s
      · rw [if_pos ht, if_pos ht, if_neg (fun e => h (e.trans ht))]
      · rw [if_neg ht, if_neg ht]
theorem lookM_ins (t : List UInt8) (x : List UInt8 × Value) (L : List (List UInt8 × Value)) (h : lookM x.1 L = none) : lookM t (insM x L) = if t = x.1 then some x.2 else lookM t L := by
  induction L with
  | nil =>
    show lookM t [x] = _
    rw [lookM_cons]
    by_cases e : t = x.1
    · rw [if_pos e, if_pos e.symm]
    · rw [if_neg e, if_neg (fun a => e a.symm)]
  | cons y r ih =>
    rw [lookM_cons] at h
    have hy : ¬ y.1 = x.1 := fun e => by rw [if_pos e] at h; cases h
    rw [if_neg hy] at h
    show lookM t (if bytesBefore x.1 y.1 then x :: y :: r else y :: insM x r) = _
    split
    · rw [lookM_cons]
      by_cases e : t = x.1
      · rw [if_pos e, if_pos e.symm]
      · rw [if_neg e, if_neg (fun a => e a.symm)]
    · rw [lookM_cons, lookM_cons, ih h]
      by_cases e : t = x.1
      · rw [if_pos e, if_pos e, if_neg (fun a => hy (a.trans e))]
      · rw [if_neg e, if_neg e]
theorem lookM_put (t s : List UInt8) (v : Value) (L : List (List UInt8 × Value)) : lookM t (putM s v L) = if t = s then some v else lookM t L := by
  unfold putM
  rw [lookM_ins t (s, v) _ (by rw [lookM_del, if_pos rfl]), lookM_del]
  by_cases h : t = s
  · rw [if_pos h, if_pos h]
  · rw [if_neg h, if_neg h, if_neg h]
theorem lookM_mem (t : List UInt8) (L : List (List UInt8 × Value)) : t ∈ L.map (·.1) ↔ (lookM t L).isSome = true := by
  induction L with
  | nil => simp [lookM]
  | cons y r ih =>
    rw [lookM_cons, List.map_cons, List.mem_cons, ih]
    by_cases h : y.1 = t
    · simp [h]
    · rw [if_neg h]
      constructor
      · rintro (e | e)
        · exact absurd e.symm h
        · exact e
      · exact .inr
theorem look_mem_iff (t : List UInt8) (l : List Fl) : t ∈ l.map Fl.name ↔ (lookF t l).isSome = true := by
  induction l with
  | nil => simp [lookF]
  | cons y r ih =>
    rw [look_cons, List.map_cons, List.mem_cons, ih]
    by_cases h : y.name = t
    · simp [h]
    · rw [if_neg h]
      constructor
      · rintro (e | e)
        · exact absurd e.symm h
        · exact e
      · exact .inr

/-- The map, the files in memory, and the files of the disk tell the same. -/
structure Tied (L : List (List UInt8 × Value)) (G : List UInt8 → Option FM) (fs : List Fl) : Prop where
  look : ∀ s, lookM s L = (G s).map fun x => Value.pointer (some ⟨x.g, 0, none⟩)
  file : ∀ s, lookF s fs = (G s).map FM.f
theorem Tied.no {L : List (List UInt8 × Value)} {G : List UInt8 → Option FM} {fs : List Fl} (h : Tied L G fs) {s : List UInt8} (hs : lookF s fs = none) : G s = none ∧ lookM s L = none := by
  have h1 := h.file s
  rw [hs] at h1
  have h2 : G s = none := by
    cases hg : G s
    · rfl
    · rw [hg] at h1; cases h1
  exact ⟨h2, by rw [h.look, h2]; rfl⟩
theorem Tied.yes {L : List (List UInt8 × Value)} {G : List UInt8 → Option FM} {fs : List Fl} (h : Tied L G fs) {s : List UInt8} {f : Fl} (hs : lookF s fs = some f) : ∃ x, G s = some x ∧ x.f = f ∧ lookM s L = some (.pointer (some ⟨x.g, 0, none⟩)) := by
  have h1 := h.file s
  rw [hs] at h1
  cases hg : G s with
  | none => rw [hg] at h1; cases h1
  | some x =>
    rw [hg] at h1
    exact ⟨x, rfl, (Option.some.inj h1).symm, by rw [h.look, hg]; rfl⟩
theorem Tied.looked {L : List (List UInt8 × Value)} {G : List UInt8 → Option FM} {fs : List Fl} (h : Tied L G fs) {s : List UInt8} {v : Value} (hs : lookM s L = some v) : ∃ x, G s = some x ∧ v = .pointer (some ⟨x.g, 0, none⟩) ∧ lookF s fs = some x.f := by
  have h1 := h.look s
  rw [hs] at h1
  cases hg : G s with
  | none => rw [hg] at h1; cases h1
  | some x =>
    rw [hg] at h1
    exact ⟨x, rfl, Option.some.inj h1, by rw [h.file, hg]; rfl⟩
theorem Tied.put {L : List (List UInt8 × Value)} {G : List UInt8 → Option FM} {fs : List Fl} {y : FM} {s : List UInt8} (h : Tied L G fs) (hy : y.f.name = s) : Tied (putM s (.pointer (some ⟨y.g, 0, none⟩)) L) (upG G s y) (withF y.f false fs) := by
  refine ⟨fun t => ?_, fun t => ?_⟩
  · rw [lookM_put, h.look]
    unfold upG
    split <;> rfl
  · rw [look_with, h.file, hy]
    unfold upG
    split <;> rfl
theorem Tied.set {L : List (List UInt8 × Value)} {G : List UInt8 → Option FM} {fs : List Fl} {x y : FM} {s : List UInt8} (h : Tied L G fs) (hx : G s = some x) (hg : y.g = x.g) (hy : y.f.name = s) : Tied L (upG G s y) (withF y.f false fs) := by
  refine ⟨fun t => ?_, fun t => ?_⟩
  · rw [h.look]
    unfold upG
    split
    · rename_i e
      show (G t).map _ = some (Value.pointer (some ⟨y.g, 0, none⟩))
      rw [e, hx, hg]; rfl
    · rfl
  · rw [look_with, h.file, hy]
    unfold upG
    split <;> rfl
theorem Tied.del {L : List (List UInt8 × Value)} {G : List UInt8 → Option FM} {fs : List Fl} {s : List UInt8} (h : Tied L G fs) : Tied (delM s L) (dnG G s) (withoutF s fs) := by
  refine ⟨fun t => ?_, fun t => ?_⟩
  · rw [lookM_del, h.look]
    unfold dnG
    split <;> rfl
  · rw [look_without, h.file]
    unfold dnG
    split <;> rfl

theorem srt_nodup (l : List Fl) (h : SrtF l) : (l.map Fl.name).Nodup := by
  unfold List.Nodup
  rw [List.pairwise_map]
  refine List.Pairwise.imp (fun {a b} hab => ?_) h
  intro e
  rw [e, bl_irrefl] at hab
  cases hab
theorem MapS.nodup {w : World} {b : Nat} {L : List (List UInt8 × Value)} {P : Program} {k : TypeId} (h : MapS w P k b L) (K : Maps.Keyed P k) : (L.map (·.1)).Nodup := by
  obtain ⟨es, he, hp, _⟩ := World.ownsMap.entries h K
  have e2 : mapE L = es := by
    unfold mapD at he
    exact DataW.map.inj he
  subst e2
  unfold mapE at hp
  rw [List.pairwise_map] at hp
  unfold List.Nodup
  rw [List.pairwise_map]
  exact List.Pairwise.imp (fun {a b} hab e => hab (by show Lit.string a.1 = Lit.string b.1; rw [e])) hp
theorem tied_perm {w : World} {b : Nat} {L : List (List UInt8 × Value)} {P : Program} {k : TypeId} {G : List UInt8 → Option FM} {fs : List Fl} (h : MapS w P k b L) (K : Maps.Keyed P k) (hT : Tied L G fs) (hs : SrtF fs) : (L.map (·.1)).Perm (fs.map Fl.name) := by
  rw [List.perm_ext_iff_of_nodup (h.nodup K) (srt_nodup fs hs)]
  intro a
  rw [lookM_mem, look_mem_iff, hT.look, hT.file, Option.isSome_map, Option.isSome_map]

/-- The block of the disk itself; l, k: what it is armed with, if it is. -/
def dpL (m : Dk) (mb l : Nat) (k : Int) : List Value := [.int .i64 m.cap, .map (some mb), .int .u64 ((m.calls : Nat) : Int), .bool m.armed, .int .u64 ((l : Nat) : Int), .int .i64 k, .bool m.down]
/-- Block q is the program's disk m, S its blocks; mb its map. -/
structure PDat (w : World) (S : Nat → Prop) (q : Nat) (m : Dk) (mb l : Nat) (kp : Int) (L : List (List UInt8 × Value)) (G : List UInt8 → Option FM) : Prop where
  blk : Blk w q 57 (dpL m mb l kp)
  arm : m.armed = true → l = m.left ∧ kp = m.keep
  left : l < 18446744073709551616
  map : MapS w Tryz.prog 9 mb L
  tied : Tied L G m.files
  at_ : AtG w G
  sep : SepG S q mb G
  srt : SrtF m.files
  ne : q ≠ mb
  sq : S q
  sm : S mb
  lt : ∀ k, S k → k < w.heap.size
def PD (w : World) (S : Nat → Prop) (q : Nat) (m : Dk) : Prop := ∃ mb l kp L G, PDat w S q m mb l kp L G

section
variable {w w' : World} {S S' T : Nat → Prop} {q mb l : Nat} {m : Dk} {kp : Int} {L : List (List UInt8 × Value)} {G : List UInt8 → Option FM}
theorem MapS.turn {P : Program} {k : TypeId} (h : MapS w P k mb L) (ht : Turn T w w') (hn : ¬ T mb) : MapS w' P k mb L := by
  obtain ⟨es, clock, hbb, F, hs, hD⟩ := h
  exact ⟨es, clock, (ht.block mb (Array.getElem?_eq_some_iff.1 hbb).1 hn).trans hbb, F, hs, hD⟩
theorem PDat.turn (h : PDat w S q m mb l kp L G) (ht : Turn T w w') (hn : ∀ k, T k → ¬ S k) : PDat w' S q m mb l kp L G :=
  ⟨ht.blk h.blk (fun e => hn q e h.sq), h.arm, h.left, h.map.turn ht (fun e => hn mb e h.sm), h.tied, h.at_.turn ht (fun s x k hx hk e => hn k e (h.sep.inS s x k hx hk).1), h.sep, h.srt, h.ne, h.sq, h.sm, fun k hk => Nat.lt_of_lt_of_le (h.lt k hk) ht.size⟩
theorem PDat.below (h : PDat w S q m mb l kp L G) (hb : Below w.heap.size w w') : PDat w' S q m mb l kp L G := h.turn (Turn.of_below hb : Turn (fun _ => False) w w') (fun k hk => hk.elim)
theorem PDat.more (h : PDat w S q m mb l kp L G) (hs : ∀ k, S k → S' k) (hl : ∀ k, S' k → k < w.heap.size) : PDat w S' q m mb l kp L G :=
  ⟨h.blk, h.arm, h.left, h.map, h.tied, h.at_, h.sep.less hs, h.srt, h.ne, hs q h.sq, hs mb h.sm, hl⟩
theorem PD.turn (h : PD w S q m) (ht : Turn T w w') (hn : ∀ k, T k → ¬ S k) : PD w' S q m := by
  obtain ⟨mb, l, kp, L, G, h⟩ := h
  exact ⟨mb, l, kp, L, G, h.turn ht hn⟩
theorem PD.below (h : PD w S q m) (hb : Below w.heap.size w w') : PD w' S q m := h.turn (Turn.of_below hb : Turn (fun _ => False) w w') (fun k hk => hk.elim)
theorem PDat.len (h : PDat w S q m mb l kp L G) : L.length = m.files.length := by
  have := (tied_perm h.map (Maps.string_keyed Tryz.underlying9) h.tied h.srt).length_eq
  simpa using this
/-- Only the disk's own block turned: another disk with the same files. -/
theorem PDat.cells (h : PDat w S q m mb l kp L G) {m' : Dk} {l' : Nat} {kp' : Int} (ht : Turn (fun k => k = q) w w') (hb : Blk w' q 57 (dpL m' mb l' kp')) (hf : m'.files = m.files) (ha : m'.armed = true → l' = m'.left ∧ kp' = m'.keep) (hl : l' < 18446744073709551616) : PDat w' S q m' mb l' kp' L G :=
  ⟨hb, ha, hl, h.map.turn ht (fun e => h.ne e.symm), by rw [hf]; exact h.tied, h.at_.turn ht (fun s x k hx hk e => (h.sep.inS s x k hx hk).2.1 e), h.sep, by rw [hf]; exact h.srt, h.ne, h.sq, h.sm, fun k hk => Nat.lt_of_lt_of_le (h.lt k hk) ht.size⟩
end

/-- 'append(out, src...)' of bytes onto a row of one's own, and where it lies behind it. -/
theorem run_append_byt_at {P : Program} (w : World) (base : Nat) (t ty e : TypeId) (i : TypeInfo) (z : Value) (ht : P.underlying t = some (.slice e)) (hi : P.info? e = some i) (hz : i.zero = some z)
    (hsize : i.size = 1) (hby : i.bytes = 1) (hzs : z.cells.size = 1)
    (v : Value) (n : Nat) (xs : List Value) (hown : w.ownsRow base e 1 v n xs)
    (B : Nat) (A : Option Addr) (m c : Nat) (l : List UInt8) (hr : Byt w B A m l) (hnil : A = none → c = 0)
    (h47 : n + m ≤ 140737488355328) (hbase : base ≤ w.heap.size) :
    ∃ v' w', (Builtin.append_ #[t, t] ty #[v, .slice A m c]).run P w = .ok v' w' ∧ w'.ownsRow base e 1 v' (n + m) (xs ++ l.map bv) ∧ w.grownBy w' v.ownBlock ∧ (v'.ownBlock = v.ownBlock ∨ v'.ownBlock = some w.heap.size) := by
  by_cases hm : m = 0
  · subst hm
    have hl : l = [] := List.eq_nil_of_length_eq_zero hr.1
    subst hl
    rcases A with _ | ad
    · obtain rfl := hnil rfl
      exact ⟨v, w, run_append_owned_none (P := P) w base t ty e i 1 ht hi v n xs hown, by simpa using hown, World.grownBy.refl w _, .inl rfl⟩
    · obtain ⟨v', w', hrun, h2, h3, _, h5⟩ := run_append_own_at (P := P) w base t ty e i z 1 1 ht hi hz hsize hby hzs (by decide) v n xs hown ad 0 c [] rfl (by simp) (by simp) (by unfold maxLen; omega) (by omega) hbase
      exact ⟨v', w', hrun, h2, h3, h5⟩
  · obtain ⟨b, o, rfl, hb, hc⟩ := hr.2 (by omega)
    obtain ⟨v', w', hrun, h2, h3, _, h5⟩ := run_append_own_at (P := P) w base t ty e i z 1 1 ht hi hz hsize hby hzs (by decide) v n xs hown ⟨b, o, none⟩ m c (l.map bv) (by simp [hr.1])
      (by
        intro j u hu
        rw [Addr.add_lit]
        rw [List.getElem?_map] at hu
        obtain ⟨x, hx, rfl⟩ := Option.map_eq_some_iff.1 hu
        exact hc j x hx) (bvs_one l) (by unfold maxLen; omega) (by omega) hbase
    exact ⟨v', w', hrun, h2, h3, h5⟩
theorem wpList_append_byt_at {P : Program} (w : World) {ops : Array Oper} {rest : List Oper} {o : Oper} {a : Act} {Q : Exit → Act → World → Prop} (hgd : Region.wanted o (yielded ops a.tmps) = true) (s x : Operand) (t : TypeId)
    (ho : o.op = .call { callee := .builtin .append, args := #[s, x], argTypes := #[t, t] })
    (base : Nat) (e : TypeId) (i : TypeInfo) (z : Value) (ht : P.underlying t = some (.slice e)) (hi : P.info? e = some i) (hz : i.zero = some z)
    (hsize : i.size = 1) (hby : i.bytes = 1) (hzs : z.cells.size = 1)
    (v : Value) (n : Nat) (xs : List Value) (hs : a.eval s = v) (hown : w.ownsRow base e 1 v n xs)
    (B : Nat) (A : Option Addr) (m c : Nat) (l : List UInt8) (hx : a.eval x = .slice A m c) (hr : Byt w B A m l) (hnil : A = none → c = 0)
    (h47 : n + m ≤ 140737488355328) (hbase : base ≤ w.heap.size)
    (h : ∀ v' w', w'.ownsRow base e 1 v' (n + m) (xs ++ l.map bv) → w.grownBy w' v.ownBlock → (v'.ownBlock = v.ownBlock ∨ v'.ownBlock = some w.heap.size) → wpList P ops Q rest (a.put o.dst v') w') : wpList P ops Q (o :: rest) a w := by
  refine BigFrame.wpList_want hgd fun K hK => ?_
  obtain ⟨v', w', hr, h2, h3, h4⟩ := run_append_byt_at (P := P) w base t o.type e i z ht hi hz hsize hby hzs v n xs hown B A m c l hr hnil h47 hbase
  unfold Oper.wp execOp
  simp only [ho, resolve, invoke, builtin, Sem.run_bind, Sem.run_pure, Result.andThen_ok, List.map_toArray, List.map_cons, List.map_nil, hs, hx, hr]
  exact hK _ _ (h v' w' h2 h3 h4)

end Go.Proofs.YthjikbhjciphiaaGreatDoor

/-
  An argument that is a record, opened.
-/
namespace Go.Proofs.YthjikbhjciphiaaGreatDoor
open Go.RowKit
open Go.ChangeShapes Go.WideShapes Go.ChangeAt
set_option linter.unusedVariables false
set_option linter.unusedSimpArgs false

theorem rc_of (w : World) (S : Nat → Prop) (cs : List Value) (ps : List Prt) (h : ps.map Prt.kind = [.num .u64, .num .i64, .txt, .num .u64, .num .u64, .num .u64]) (hv : PrtsV w S cs ps) (ho : ∀ p ∈ ps, p.okay) :
    ∃ (s : Nat) (k : Int) (T : ByteArray) (l n b : Nat), cs = rcCs s k T l n b ∧ (⟨s, k, T.data.toList, l, n, b⟩ : Rc).okay ∧ T.size ≤ maxLen := by
  match ps, h with
  | [.num k0 z0, .num k1 z1, .txt t, .num k3 z3, .num k4 z4, .num k5 z5], h =>
    simp only [List.map_cons, List.map_nil, Prt.kind, List.cons.injEq, PK.num.injEq, and_true, true_and] at h
    obtain ⟨rfl, rfl, rfl, rfl, rfl⟩ := h
    obtain ⟨v0, r0, rfl, e0, v1, r1, rfl, e1, v2, r2, rfl, e2, v3, r3, rfl, e3, v4, r4, rfl, e4, v5, r5, rfl, e5, e6⟩ := hv
    have e0 : v0 = .int .u64 z0 := e0
    have e1 : v1 = .int .i64 z1 := e1
    have e2 : v2 = .string ⟨t.toArray⟩ := e2
    have e3 : v3 = .int .u64 z3 := e3
    have e4 : v4 = .int .u64 z4 := e4
    have e5 : v5 = .int .u64 z5 := e5
    have e6 : r5 = [] := e6
    subst e0 e1 e2 e3 e4 e5 e6
    have b0 := bounds_u64 (ho (.num .u64 z0) (by simp))
    have b1 := bounds_i64 (ho (.num .i64 z1) (by simp))
    have b2 : t.length ≤ maxLen := ho (.txt t) (by simp)
    have b3 := bounds_u64 (ho (.num .u64 z3) (by simp))
    have b4 := bounds_u64 (ho (.num .u64 z4) (by simp))
    have b5 := bounds_u64 (ho (.num .u64 z5) (by simp))
    obtain ⟨s, rfl⟩ := Int.eq_ofNat_of_zero_le b0.1
    obtain ⟨l, rfl⟩ := Int.eq_ofNat_of_zero_le b3.1
    obtain ⟨n, rfl⟩ := Int.eq_ofNat_of_zero_le b4.1
    obtain ⟨b, rfl⟩ := Int.eq_ofNat_of_zero_le b5.1
    refine ⟨s, z1, ⟨t.toArray⟩, l, n, b, rfl, ⟨?_, ?_, ?_, ?_, ?_, ?_⟩, b2⟩ <;> (simp only; omega)

set_option maxRecDepth 100000 in
theorem open_rc {H : Type} {enc : TypeId × Value → H} {W : World} {base : Nat} {held : Bool} {v : Value} {d : DataW H} {p : List MemPlace}
    (hv : Value.okWide Tryz.prog W .any base 35 v) (h : DataW.Trod enc Tryz.prog W 0 (fun _ => true) held 35 v d p) :
    ∃ (s : Nat) (k : Int) (T : ByteArray) (l n b : Nat), v = rcV s k T l n b ∧ (⟨s, k, T.data.toList, l, n, b⟩ : Rc).okay ∧ T.size ≤ maxLen := by
  have c4 : Tryz.prog.cellsOf 35 = 6 := by kernel_rfl
  obtain ⟨cs, rfl, hsz, _⟩ : ∃ cs, v = .agg cs ∧ cs.size = Tryz.prog.cellsOf 35 ∧ Row.okWide Tryz.prog W .any base 35 cs := by
    simpa [Value.okWide, Tryz.underlying35] using hv
  obtain ⟨fuel, hf⟩ := h
  obtain ⟨ps, h1, h2, h3⟩ := open_prts (pks := [.num .u64, .num .i64, .txt, .num .u64, .num .u64, .num .u64]) Tryz.underlying35 c4 ⟨rfl, fun i pk hi => by
    match i, hi with
    | 0, hi => cases hi; exact ⟨_, rfl, rfl, by kernel_rfl, Tryz.underlying23⟩
    | 1, hi => cases hi; exact ⟨_, rfl, rfl, by kernel_rfl, Tryz.underlying3⟩
    | 2, hi => cases hi; exact ⟨_, rfl, rfl, by kernel_rfl, Tryz.underlying9⟩
    | 3, hi => cases hi; exact ⟨_, rfl, rfl, by kernel_rfl, Tryz.underlying23⟩
    | 4, hi => cases hi; exact ⟨_, rfl, rfl, by kernel_rfl, Tryz.underlying23⟩
    | 5, hi => cases hi; exact ⟨_, rfl, rfl, by kernel_rfl, Tryz.underlying23⟩
    | i + 6, hi => exact absurd (List.getElem?_eq_some_iff.1 hi).1 (by simp)⟩ hf
  obtain ⟨s, k, T, l, n, b, hc, ho, hT⟩ := rc_of W _ _ ps h1 h2 h3
  refine ⟨s, k, T, l, n, b, ?_, ho, hT⟩
  have hc' : cs.toList = rcCs s k T l n b := hc
  unfold rcV
  congr 1
  apply Array.ext'
  rw [hc']
  rfl

end Go.Proofs.YthjikbhjciphiaaGreatDoor

/-
  The reference of records: a record's bytes.
-/
namespace Go.Proofs.YthjikbhjciphiaaGreatDoor
open Go.RowKit
set_option linter.unusedVariables false
set_option linter.unusedSimpArgs false

theorem str_cells (T : ByteArray) : Lib.strCells T = T.data.toList.map bv := rfl

/-- What was below stays so where a row of one's own grows. -/
theorem acc_step {B n : Nat} {W1 w2 w3 : World} {e : TypeId} {v : Value} {xs : List Value} (hB : Below B W1 w2) (hle : B ≤ w2.heap.size) (ha : w2.ownsRow B e 1 v n xs) (hg : w2.grownBy w3 v.ownBlock) : Below B W1 w3 :=
  hB.grown hg hle fun q hq => (ha.lt q hq).1

theorem own_cast {w : World} {base n : Nat} {e : TypeId} {v : Value} {xs ys : List Value} (h : w.ownsRow base e 1 v n xs) (he : xs = ys) : w.ownsRow base e 1 v n ys := he ▸ h

attribute [local go_sem] fz1_108 fz1_110 fz1_98 fz2_108 fz2_110 fz2_98 fz3_108 fz3_110 fz3_98 fz4_108 fz4_110 fz4_98 fz5_108 fz5_110 fz5_98

end Go.Proofs.YthjikbhjciphiaaGreatDoor
