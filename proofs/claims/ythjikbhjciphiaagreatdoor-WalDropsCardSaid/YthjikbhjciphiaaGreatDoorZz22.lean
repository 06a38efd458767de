/-
  The program's disk in memory: each file in blocks of its own, told by a map.
-/
import Derived.Test.YthjikbhjciphiaaGreatDoorZz21
import Derived.Test.YthjikbhjciphiaaGreatDoorZz14
import Derived.Test.YthjikbhjciphiaaGreatDoorZz20
import Derived.Lib.AppendStr
import Derived.Test.YthjikbhjciphiaaGreatDoorZz8
import Derived.Deep.RegionWith
import Derived.Deep.RegionHeld3
import Derived.Deep.CutRange
namespace Go.Proofs.YthjikbhjciphiaaGreatDoor
open Go.RowKit
set_option linter.unusedVariables false
set_option linter.unusedSimpArgs false

/-- A file as it lies: its block, where its bytes are, how many there may be. -/
structure FM where
  f : Fl
  g : Nat
  A : Option Addr
  c : Nat
def FM.blks (x : FM) (k : Nat) : Prop := k = x.g ∨ ∃ a, x.A = some a ∧ k = a.block
def FM.at_ (w : World) (x : FM) : Prop :=
  Blk w x.g 78 [.slice x.A x.f.data.length x.c, .int .i64 ((x.f.sure : Nat) : Int)] ∧ w.ownsRow 0 5 1 (.slice x.A x.f.data.length x.c) x.f.data.length (x.f.data.map bv)
theorem own_turn {w w' : World} {T : Nat → Prop} {base : Nat} {e : TypeId} {size : Nat} {A : Option Addr} {n c : Nat} {xs : List Value} (h : w.ownsRow base e size (.slice A n c) n xs) (ht : Turn T w w') (hn : ∀ a, A = some a → ¬ T a.block) : w'.ownsRow base e size (.slice A n c) n xs := by
  rcases h with ⟨h1, h2⟩
  refine ⟨h1, ?_⟩
  rcases h2 with h2 | ⟨g, cap, cur, hv, hg, hh, r⟩
  · exact .inl h2
  · refine .inr ⟨g, cap, cur, hv, hg, ?_, r⟩
    injection hv with hA
    exact (ht.block g (Array.getElem?_eq_some_iff.1 hh).1 (hn _ hA)).trans hh
theorem FM.turn {w w' : World} {T : Nat → Prop} {x : FM} (h : x.at_ w) (ht : Turn T w w') (hn : ∀ k, x.blks k → ¬ T k) : x.at_ w' :=
  ⟨ht.blk h.1 (hn _ (.inl rfl)), own_turn h.2 ht fun a ha => hn _ (.inr ⟨a, ha, rfl⟩)⟩
theorem FM.form {w : World} {x : FM} (h : x.at_ w) : (x.A = none → x.f.data.length = 0 ∧ x.c = 0) ∧ x.f.data.length ≤ x.c ∧ x.c ≤ maxLen := by
  obtain ⟨A, c, e, h1, h2, h3⟩ := own_form h.2
  injection e with e1 e2 e3
  subst e1 e3
  exact ⟨h1, h2, h3⟩
theorem FM.byt {w : World} {x : FM} (h : x.at_ w) : Byt w w.heap.size x.A x.f.data.length x.f.data := Byt.of_own h.2

/-- A file for each name: all in memory; in blocks of S, none shared. -/
def AtG (w : World) (G : List UInt8 → Option FM) : Prop := ∀ s x, G s = some x → x.at_ w
structure SepG (S : Nat → Prop) (q mb : Nat) (G : List UInt8 → Option FM) : Prop where
  inS : ∀ s x k, G s = some x → x.blks k → S k ∧ k ≠ q ∧ k ≠ mb
  apart : ∀ s t x y k, s ≠ t → G s = some x → G t = some y → x.blks k → ¬ y.blks k
  two : ∀ s x a, G s = some x → x.A = some a → a.block ≠ x.g
def upG (G : List UInt8 → Option FM) (s : List UInt8) (y : FM) : List UInt8 → Option FM := fun t => if t = s then some y else G t
def dnG (G : List UInt8 → Option FM) (s : List UInt8) : List UInt8 → Option FM := fun t => if t = s then none else G t
theorem AtG.turn {w w' : World} {T : Nat → Prop} {G : List UInt8 → Option FM} (h : AtG w G) (ht : Turn T w w') (hn : ∀ s x k, G s = some x → x.blks k → ¬ T k) : AtG w' G := fun s x hx => FM.turn (h s x hx) ht fun k hk => hn s x k hx hk
theorem AtG.up {w w' : World} {T : Nat → Prop} {G : List UInt8 → Option FM} {s : List UInt8} {y : FM} (h : AtG w G) (ht : Turn T w w') (hn : ∀ t x k, t ≠ s → G t = some x → x.blks k → ¬ T k) (hy : y.at_ w') : AtG w' (upG G s y) := by
  intro t x hx
  unfold upG at hx
  split at hx
  · cases hx
    exact hy
  · rename_i hts
    exact FM.turn (h t x hx) ht fun k hk => hn t x k hts hx hk
theorem AtG.dn {w : World} {G : List UInt8 → Option FM} {s : List UInt8} (h : AtG w G) : AtG w (dnG G s) := by
  intro t x hx
  unfold dnG at hx
  split at hx
  · cases hx
  · exact h t x hx
theorem SepG.less {S S' : Nat → Prop} {q mb : Nat} {G : List UInt8 → Option FM} (h : SepG S q mb G) (hs : ∀ k, S k → S' k) : SepG S' q mb G :=
  ⟨fun s x k hx hk => by have := h.inS s x k hx hk; exact ⟨hs k this.1, this.2⟩, h.apart, h.two⟩
theorem SepG.up {S S' : Nat → Prop} {q mb : Nat} {G : List UInt8 → Option FM} {s : List UInt8} {y : FM} (h : SepG S q mb G) (hs : ∀ k, S k → S' k) (h1 : ∀ k, y.blks k → S' k ∧ k ≠ q ∧ k ≠ mb) (h2 : ∀ t x k, t ≠ s → G t = some x → x.blks k → ¬ y.blks k) (h3 : ∀ a, y.A = some a → a.block ≠ y.g) : SepG S' q mb (upG G s y) := by
  refine ⟨fun t x k hx hk => ?_, fun t u x z k htu hx hz hk hk2 => ?_, fun t x a hx ha => ?_⟩
  · unfold upG at hx
    split at hx
    · cases hx
      exact h1 k hk
    · have := h.inS t x k hx hk
      exact ⟨hs k this.1, this.2⟩
  · unfold upG at hx hz
    split at hx <;> split at hz
    · rename_i e1 e2
      exact htu (e1.trans e2.symm)
    · rename_i e1 e2
      cases hx
      exact h2 u z k e2 hz hk2 hk
    · rename_i e1 e2
      cases hz
      exact h2 t x k e1 hx hk hk2
    · exact h.apart t u x z k htu hx hz hk hk2
  · unfold upG at hx
    split at hx
    · cases hx
      exact h3 a ha
    · exact h.two t x a hx ha
theorem SepG.dn {S : Nat → Prop} {q mb : Nat} {G : List UInt8 → Option FM} {s : List UInt8} (h : SepG S q mb G) : SepG S q mb (dnG G s) := by
  refine ⟨fun t x k hx hk => ?_, fun t u x z k htu hx hz hk hk2 => ?_, fun t x a hx ha => ?_⟩
  · unfold dnG at hx
    split at hx
    · cases hx
    · exact h.inS t x k hx hk
  · unfold dnG at hx hz
    split at hx
    · cases hx
    · split at hz
      · cases hz
      · exact h.apart t u x z k htu hx hz hk hk2
  · unfold dnG at hx
    split at hx
    · cases hx
    · exact h.two t x a hx ha

/-- Look-ups of a map's list. -/
theorem lookM_cons (t : List UInt8) (p : List UInt8 × Value) (r : List (List UInt8 × Value)) : lookM t (p :: r) = if p.1 = t then some p.2 else lookM t r := by
  unfold lookM
  rw [List.find?_cons]
  by_cases h : p.1 = t
  · simp [h]
  · have : (p.1 == t) = false := by simpa using h
    rw [this, if_neg h]
theorem lookM_del (t s : List UInt8) (L : List (List UInt8 × Value)) : lookM t (delM s L) = if t = s then none else lookM t L := by
  induction L with
  | nil => show none = _; split <;> rfl
  | cons y r ih =>
    have e : delM s (y :: r) = (if y.1 = s then [] else [y]) ++ delM s r := by
      unfold delM
      by_cases h : y.1 = s <;> simp [h]
    rw [e]
    by_cases h : y.1 = s
    · rw [if_pos h, List.nil_append, ih, lookM_cons]
      by_cases ht : t = s
      · rw [if_pos ht, if_pos ht]
      · rw [if_neg ht, if_neg ht, if_neg (fun e => ht (e.symm.trans h))]
    · rw [if_neg h]
      show lookM t (y :: delM s r) = _
      rw [lookM_cons, lookM_cons, ih]
      by_cases ht : t = s
      · rw [if_pos ht, if_pos ht, if_neg (fun e => h (e.trans ht))]
      · rw [if_neg ht, if_neg ht]
theorem lookM_ins (t : List UInt8) (x : List UInt8 × Value) (L : List (List UInt8 × Value)) (h : lookM x.1 L = none) : lookM t (insM x L) = if t = x.1 then some x.2 else lookM t L := by
  induction L with
  | nil =>
    show lookM t [x] = _
    rw [lookM_cons]
    by_cases e : t = x.1
    · rw [if_pos e, if_pos e.symm]
    · rw [if_neg e, if_neg (fun a => e a.symm)]
  | cons y r ih =>
    rw [lookM_cons] at h
    have hy : ¬ y.1 = x.1 := fun e => by rw [if_pos e] at h; cases h
    rw [if_neg hy] at h
    show lookM t (if bytesBefore x.1 y.1 then x :: y :: r else y :: insM x r) = _
    split
    · rw [lookM_cons]
      by_cases e : t = x.1
      · rw [if_pos e, if_pos e.symm]
      · rw [if_neg e, if_neg (fun a => e a.symm)]
    · rw [lookM_cons, lookM_cons, ih h]
      by_cases e : t = x.1
      · rw [if_pos e, if_pos e, if_neg (fun a => hy (a.trans e))]
      · rw [if_neg e, if_neg e]
theorem lookM_put (t s : List UInt8) (v : Value) (L : List (List UInt8 × Value)) : lookM t (putM s v L) = if t = s then some v else lookM t L := by
  unfold putM
  rw [lookM_ins t (s, v) _ (by rw [lookM_del, if_pos rfl]), lookM_del]
  by_cases h : t = s
  · rw [if_pos h, if_pos h]
  · rw [if_neg h, if_neg h, if_neg h]
theorem lookM_mem (t : List UInt8) (L : List (List UInt8 × Value)) : t ∈ L.map (·.1) ↔ (lookM t L).isSome = true := by
  induction L with
  | nil => simp [lookM]
  | cons y r ih =>
    rw [lookM_cons, List.map_cons, List.mem_cons, ih]
    by_cases h : y.1 = t
    · simp [h]
    · rw [if_neg h]
      constructor
      · rintro (e | e)
        · exact absurd e.symm h
        · exact e
      · exact .inr
theorem look_mem_iff (t : List UInt8) (l : List Fl) : t ∈ l.map Fl.name ↔ (lookF t l).isSome = true := by
  induction l with
  | nil => simp [lookF]
  | cons y r ih =>
    rw [look_cons, List.map_cons, List.mem_cons, ih]
    by_cases h : y.name = t
    · simp [h]
    · rw [if_neg h]
      constructor
      · rintro (e | e)
        · exact absurd e.symm h
        · exact e
      · exact .inr

/-- The map, the files in memory, and the files of the disk tell the same. -/
structure Tied (L : List (List UInt8 × Value)) (G : List UInt8 → Option FM) (fs : List Fl) : Prop where
  look : ∀ s, lookM s L = (G s).map fun x => Value.pointer (some ⟨x.g, 0, none⟩)
  file : ∀ s, lookF s fs = (G s).map FM.f
theorem Tied.no {L : List (List UInt8 × Value)} {G : List UInt8 → Option FM} {fs : List Fl} (h : Tied L G fs) {s : List UInt8} (hs : lookF s fs = none) : G s = none ∧ lookM s L = none := by
  have h1 := h.file s
  rw [hs] at h1
  have h2 : G s = none := by
    cases hg : G s
    · rfl
    · rw [hg] at h1; cases h1
  exact ⟨h2, by rw [h.look, h2]; rfl⟩
theorem Tied.yes {L : List (List UInt8 × Value)} {G : List UInt8 → Option FM} {fs : List Fl} (h : Tied L G fs) {s : List UInt8} {f : Fl} (hs : lookF s fs = some f) : ∃ x, G s = some x ∧ x.f = f ∧ lookM s L = some (.pointer (some ⟨x.g, 0, none⟩)) := by
  have h1 := h.file s
  rw [hs] at h1
  cases hg : G s with
  | none => rw [hg] at h1; cases h1
  | some x =>
    rw [hg] at h1
    exact ⟨x, rfl, (Option.some.inj h1).symm, by rw [h.look, hg]; rfl⟩
theorem Tied.looked {L : List (List UInt8 × Value)} {G : List UInt8 → Option FM} {fs : List Fl} (h : Tied L G fs) {s : List UInt8} {v : Value} (hs : lookM s L = some v) : ∃ x, G s = some x ∧ v = .pointer (some ⟨x.g, 0, none⟩) ∧ lookF s fs = some x.f := by
  have h1 := h.look s
  rw [hs] at h1
  cases hg : G s with
  | none => rw [hg] at h1; cases h1
  | some x =>
    rw [hg] at h1
    exact ⟨x, rfl, Option.some.inj h1, by rw [h.file, hg]; rfl⟩
theorem Tied.put {L : List (List UInt8 × Value)} {G : List UInt8 → Option FM} {fs : List Fl} {y : FM} {s : List UInt8} (h : Tied L G fs) (hy : y.f.name = s) : Tied (putM s (.pointer (some ⟨y.g, 0, none⟩)) L) (upG G s y) (withF y.f false fs) := by
  refine ⟨fun t => ?_, fun t => ?_⟩
  · rw [lookM_put, h.look]
    unfold upG
    split <;> rfl
  · rw [look_with, h.file, hy]
    unfold upG
    split <;> rfl
theorem Tied.set {L : List (List UInt8 × Value)} {G : List UInt8 → Option FM} {fs : List Fl} {x y : FM} {s : List UInt8} (h : Tied L G fs) (hx : G s = some x) (hg : y.g = x.g) (hy : y.f.name = s) : Tied L (upG G s y) (withF y.f false fs) := by
  refine ⟨fun t => ?_, fun t => ?_⟩
  · rw [h.look]
    unfold upG
    split
    · rename_i e
      show (G t).map _ = some (Value.pointer (some ⟨y.g, 0, none⟩))
      rw [e, hx, hg]; rfl
    · rfl
  · rw [look_with, h.file, hy]
    unfold upG
    split <;> rfl
theorem Tied.del {L : List (List UInt8 × Value)} {G : List UInt8 → Option FM} {fs : List Fl} {s : List UInt8} (h : Tied L G fs) : Tied (delM s L) (dnG G s) (withoutF s fs) := by
  refine ⟨fun t => ?_, fun t => ?_⟩
  · rw [lookM_del, h.look]
    unfold dnG
    split <;> rfl
  · rw [look_without, h.file]
    unfold dnG
    split <;> rfl

theorem srt_nodup (l : List Fl) (h : SrtF l) : (l.map Fl.name).Nodup := by
  unfold List.Nodup
  rw [List.pairwise_map]
  refine List.Pairwise.imp (fun {a b} hab => ?_) h
  intro e
  rw [e, bl_irrefl] at hab
  cases hab
theorem MapS.nodup {w : World} {b : Nat} {L : List (List UInt8 × Value)} {P : Program} {k : TypeId} (h : MapS w P k b L) (K : Maps.Keyed P k) : (L.map (·.1)).Nodup := by
  obtain ⟨es, he, hp, _⟩ := World.ownsMap.entries h K
  have e2 : mapE L = es := by
    unfold mapD at he
    exact DataW.map.inj he
  subst e2
  unfold mapE at hp
  rw [List.pairwise_map] at hp
  unfold List.Nodup
  rw [List.pairwise_map]
  exact List.Pairwise.imp (fun {a b} hab e => hab (by show Lit.string a.1 = Lit.string b.1; rw [e])) hp
theorem tied_perm {w : World} {b : Nat} {L : List (List UInt8 × Value)} {P : Program} {k : TypeId} {G : List UInt8 → Option FM} {fs : List Fl} (h : MapS w P k b L) (K : Maps.Keyed P k) (hT : Tied L G fs) (hs : SrtF fs) : (L.map (·.1)).Perm (fs.map Fl.name) := by
  rw [List.perm_ext_iff_of_nodup (h.nodup K) (srt_nodup fs hs)]
  intro a
  rw [lookM_mem, look_mem_iff, hT.look, hT.file, Option.isSome_map, Option.isSome_map]

/-- The block of the disk itself; l, k: what it is armed with, if it is. -/
def dpL (m : Dk) (mb l : Nat) (k : Int) : List Value := [.int .i64 m.cap, .map (some mb), .int .u64 ((m.calls : Nat) : Int), .bool m.armed, .int .u64 ((l : Nat) : Int), .int .i64 k, .bool m.down]
/-- Block q is the program's disk m, S its blocks; mb its map. -/
structure PDat (w : World) (S : Nat → Prop) (q : Nat) (m : Dk) (mb l : Nat) (kp : Int) (L : List (List UInt8 × Value)) (G : List UInt8 → Option FM) : Prop where
  blk : Blk w q 57 (dpL m mb l kp)
  arm : m.armed = true → l = m.left ∧ kp = m.keep
  left : l < 18446744073709551616
  map : MapS w Tryz.prog 9 mb L
  tied : Tied L G m.files
  at_ : AtG w G
  sep : SepG S q mb G
  srt : SrtF m.files
  ne : q ≠ mb
  sq : S q
  sm : S mb
  lt : ∀ k, S k → k < w.heap.size
def PD (w : World) (S : Nat → Prop) (q : Nat) (m : Dk) : Prop := ∃ mb l kp L G, PDat w S q m mb l kp L G

section
variable {w w' : World} {S S' T : Nat → Prop} {q mb l : Nat} {m : Dk} {kp : Int} {L : List (List UInt8 × Value)} {G : List UInt8 → Option FM}
theorem MapS.turn {P : Program} {k : TypeId} (h : MapS w P k mb L) (ht : Turn T w w') (hn : ¬ T mb) : MapS w' P k mb L := by
  obtain ⟨es, clock, hbb, F, hs, hD⟩ := h
  exact ⟨es, clock, (ht.block mb (Array.getElem?_eq_some_iff.1 hbb).1 hn).trans hbb, F, hs, hD⟩
theorem PDat.turn (h : PDat w S q m mb l kp L G) (ht : Turn T w w') (hn : ∀ k, T k → ¬ S k) : PDat w' S q m mb l kp L G :=
  ⟨ht.blk h.blk (fun e => hn q e h.sq), h.arm, h.left, h.map.turn ht (fun e => hn mb e h.sm), h.tied, h.at_.turn ht (fun s x k hx hk e => hn k e (h.sep.inS s x k hx hk).1), h.sep, h.srt, h.ne, h.sq, h.sm, fun k hk => Nat.lt_of_lt_of_le (h.lt k hk) ht.size⟩
theorem PDat.below (h : PDat w S q m mb l kp L G) (hb : Below w.heap.size w w') : PDat w' S q m mb l kp L G := h.turn (Turn.of_below hb : Turn (fun _ => False) w w') (fun k hk => hk.elim)
theorem PDat.more (h : PDat w S q m mb l kp L G) (hs : ∀ k, S k → S' k) (hl : ∀ k, S' k → k < w.heap.size) : PDat w S' q m mb l kp L G :=
  ⟨h.blk, h.arm, h.left, h.map, h.tied, h.at_, h.sep.less hs, h.srt, h.ne, hs q h.sq, hs mb h.sm, hl⟩
theorem PD.turn (h : PD w S q m) (ht : Turn T w w') (hn : ∀ k, T k → ¬ S k) : PD w' S q m := by
  obtain ⟨mb, l, kp, L, G, h⟩ := h
  exact ⟨mb, l, kp, L, G, h.turn ht hn⟩
theorem PD.below (h : PD w S q m) (hb : Below w.heap.size w w') : PD w' S q m := h.turn (Turn.of_below hb : Turn (fun _ => False) w w') (fun k hk => hk.elim)
theorem PDat.len (h : PDat w S q m mb l kp L G) : L.length = m.files.length := by
  have := (tied_perm h.map (Maps.string_keyed Tryz.underlying9) h.tied h.srt).length_eq
  simpa using this
/-- Only the disk's own block turned: another disk with the same files. -/
theorem PDat.cells (h : PDat w S q m mb l kp L G) {m' : Dk} {l' : Nat} {kp' : Int} (ht : Turn (fun k => k = q) w w') (hb : Blk w' q 57 (dpL m' mb l' kp')) (hf : m'.files = m.files) (ha : m'.armed = true → l' = m'.left ∧ kp' = m'.keep) (hl : l' < 18446744073709551616) : PDat w' S q m' mb l' kp' L G :=
  ⟨hb, ha, hl, h.map.turn ht (fun e => h.ne e.symm), by rw [hf]; exact h.tied, h.at_.turn ht (fun s x k hx hk e => (h.sep.inS s x k hx hk).2.1 e), h.sep, by rw [hf]; exact h.srt, h.ne, h.sq, h.sm, fun k hk => Nat.lt_of_lt_of_le (h.lt k hk) ht.size⟩
end

/-- 'append(out, src...)' of bytes onto a row of one's own, and where it lies behind it. -/
theorem run_append_byt_at {P : Program} (w : World) (base : Nat) (t ty e : TypeId) (i : TypeInfo) (z : Value) (ht : P.underlying t = some (.slice e)) (hi : P.info? e = some i) (hz : i.zero = some z)
    (hsize : i.size = 1) (hby : i.bytes = 1) (hzs : z.cells.size = 1)
    (v : Value) (n : Nat) (xs : List Value) (hown : w.ownsRow base e 1 v n xs)
    (B : Nat) (A : Option Addr) (m c : Nat) (l : List UInt8) (hr : Byt w B A m l) (hnil : A = none → c = 0)
    (h47 : n + m ≤ 140737488355328) (hbase : base ≤ w.heap.size) :
    ∃ v' w', (Builtin.append_ #[t, t] ty #[v, .slice A m c]).run P w = .ok v' w' ∧ w'.ownsRow base e 1 v' (n + m) (xs ++ l.map bv) ∧ w.grownBy w' v.ownBlock ∧ (v'.ownBlock = v.ownBlock ∨ v'.ownBlock = some w.heap.size) := by
  by_cases hm : m = 0
  · subst hm
    have hl : l = [] := List.eq_nil_of_length_eq_zero hr.1
    subst hl
    rcases A with _ | ad
    · obtain rfl := hnil rfl
      exact ⟨v, w, run_append_owned_none (P := P) w base t ty e i 1 ht hi v n xs hown, by simpa using hown, World.grownBy.refl w _, .inl rfl⟩
    · obtain ⟨v', w', hrun, h2, h3, _, h5⟩ := run_append_own_at (P := P) w base t ty e i z 1 1 ht hi hz hsize hby hzs (by decide) v n xs hown ad 0 c [] rfl (by simp) (by simp) (by unfold maxLen; omega) (by omega) hbase
      exact ⟨v', w', hrun, h2, h3, h5⟩
  · obtain ⟨b, o, rfl, hb, hc⟩ := hr.2 (by omega)
    obtain ⟨v', w', hrun, h2, h3, _, h5⟩ := run_append_own_at (P := P) w base t ty e i z 1 1 ht hi hz hsize hby hzs (by decide) v n xs hown ⟨b, o, none⟩ m c (l.map bv) (by simp [hr.1])
      (by
        intro j u hu
        rw [Addr.add_lit]
        rw [List.getElem?_map] at hu
        obtain ⟨x, hx, rfl⟩ := Option.map_eq_some_iff.1 hu
        exact hc j x hx) (bvs_one l) (by unfold maxLen; omega) (by omega) hbase
    exact ⟨v', w', hrun, h2, h3, h5⟩
theorem wpList_append_byt_at {P : Program} (w : World) {ops : Array Oper} {rest : List Oper} {o : Oper} {a : Act} {Q : Exit → Act → World → Prop} (hgd : Region.wanted o (yielded ops a.tmps) = true) (s x : Operand) (t : TypeId)
    (ho : o.op = .call { callee := .builtin .append, args := #[s, x], argTypes := #[t, t] })
    (base : Nat) (e : TypeId) (i : TypeInfo) (z : Value) (ht : P.underlying t = some (.slice e)) (hi : P.info? e = some i) (hz : i.zero = some z)
    (hsize : i.size = 1) (hby : i.bytes = 1) (hzs : z.cells.size = 1)
    (v : Value) (n : Nat) (xs : List Value) (hs : a.eval s = v) (hown : w.ownsRow base e 1 v n xs)
    (B : Nat) (A : Option Addr) (m c : Nat) (l : List UInt8) (hx : a.eval x = .slice A m c) (hr : Byt w B A m l) (hnil : A = none → c = 0)
    (h47 : n + m ≤ 140737488355328) (hbase : base ≤ w.heap.size)
    (h : ∀ v' w', w'.ownsRow base e 1 v' (n + m) (xs ++ l.map bv) → w.grownBy w' v.ownBlock → (v'.ownBlock = v.ownBlock ∨ v'.ownBlock = some w.heap.size) → wpList P ops Q rest (a.put o.dst v') w') : wpList P ops Q (o :: rest) a w := by
  refine BigFrame.wpList_want hgd fun K hK => ?_
  obtain ⟨v', w', hr, h2, h3, h4⟩ := run_append_byt_at (P := P) w base t o.type e i z ht hi hz hsize hby hzs v n xs hown B A m c l hr hnil h47 hbase
  unfold Oper.wp execOp
  simp only [ho, resolve, invoke, builtin, Sem.run_bind, Sem.run_pure, Result.andThen_ok, List.map_toArray, List.map_cons, List.map_nil, hs, hx, hr]
  exact hK _ _ (h v' w' h2 h3 h4)

end Go.Proofs.YthjikbhjciphiaaGreatDoor

/-
  The reference of records: a record's bytes.
-/
namespace Go.Proofs.YthjikbhjciphiaaGreatDoor
open Go.RowKit
set_option linter.unusedVariables false
set_option linter.unusedSimpArgs false

theorem str_cells (T : ByteArray) : Lib.strCells T = T.data.toList.map bv := rfl

/-- What was below stays so where a row of one's own grows. -/
theorem acc_step {B n : Nat} {W1 w2 w3 : World} {e : TypeId} {v : Value} {xs : List Value} (hB : Below B W1 w2) (hle : B ≤ w2.heap.size) (ha : w2.ownsRow B e 1 v n xs) (hg : w2.grownBy w3 v.ownBlock) : Below B W1 w3 :=
  hB.grown hg hle fun q hq => (ha.lt q hq).1

theorem own_cast {w : World} {base n : Nat} {e : TypeId} {v : Value} {xs ys : List Value} (h : w.ownsRow base e 1 v n xs) (he : xs = ys) : w.ownsRow base e 1 v n ys := he ▸ h

attribute [local go_sem] fz1_108 fz1_110 fz1_98 fz2_108 fz2_110 fz2_98 fz3_108 fz3_110 fz3_98 fz4_108 fz4_110 fz4_98 fz5_108 fz5_110 fz5_98

end Go.Proofs.YthjikbhjciphiaaGreatDoor

/-
  Package rec: a record's bytes.
-/
namespace Go.Proofs.YthjikbhjciphiaaGreatDoor
open Go.RowKit
set_option linter.unusedVariables false
set_option linter.unusedSimpArgs false

theorem enters_enc : ∀ args w, (callFunc 129 args).run Tryz.prog w = .ok (.enter 129 args) w := enters_of Tryz.func129 (by kernel_rfl) rfl

/-- Block p holds bytes of one's own, newer than itself. -/
def Acc (w : World) (p : Nat) (l : List UInt8) : Prop :=
  ∃ A n c, Blk w p 70 [.slice A n c] ∧ w.ownsRow (p + 1) 5 1 (.slice A n c) n (l.map bv)
theorem Acc.lt {w : World} {p : Nat} {l : List UInt8} (h : Acc w p l) : p < w.heap.size := by
  obtain ⟨A, n, c, h1, _⟩ := h
  exact h1.lt
/-- Another row of one's own is stored. -/
theorem acc_store {w w' : World} {p : Nat} {l' : List UInt8} {A A' : Option Addr} {n n' c c' : Nat} (h : Blk w p 70 [.slice A n c]) (hb : Below w.heap.size w w') (ho : w'.ownsRow w.heap.size 5 1 (.slice A' n' c') n' (l'.map bv)) :
    Blk (w'.setCell ⟨p, 0, none⟩ (.slice A' n' c')) p 70 [.slice A' n' c'] ∧ (w'.setCell ⟨p, 0, none⟩ (.slice A' n' c')).ownsRow (p + 1) 5 1 (.slice A' n' c') n' (l'.map bv) := by
  have h' := h.below hb h.lt
  refine ⟨h'.set 0 _, ?_⟩
  rw [setCell_row h']
  exact own_setRow (own_mono ho h.lt) (by omega) _
theorem Acc.store {w w' : World} {p : Nat} {l' : List UInt8} {A A' : Option Addr} {n n' c c' : Nat} (h : Blk w p 70 [.slice A n c]) (hb : Below w.heap.size w w') (ho : w'.ownsRow w.heap.size 5 1 (.slice A' n' c') n' (l'.map bv)) : Acc (w'.setCell ⟨p, 0, none⟩ (.slice A' n' c')) p l' :=
  ⟨A', n', c', acc_store h hb ho⟩
theorem turn_store {w w' : World} {p : Nat} {v : Value} (hb : Below w.heap.size w w') : Turn (fun k => k = p) w (w'.setCell ⟨p, 0, none⟩ v) := (Turn.of_below hb).setCell (S := fun k => k = p) (p := ⟨p, 0, none⟩) rfl v

set_option maxRecDepth 100000 in
set_option maxHeartbeats 1000000 in
theorem encF_any (h : Bool) (p g i x : Nat) (l : List UInt8) (W : World) (hx : x < 18446744073709551616) (hA : Acc W p l) (hl : l.length ≤ 1000000) (hc : W.cell? ⟨g, i, none⟩ = some (.int .u64 (x : Nat))) (hg : g ≠ p) :
    Calls Tryz.prog 129 (#[.bool h, .pointer (some ⟨g, i, none⟩)] ++ #[.pointer (some ⟨p, 0, none⟩)]) W fun e W' => e = .returned (.tuple #[]) ∧ Acc W' p (l ++ fldC h x) ∧ Turn (fun k => k = p) W W' := by
  show Calls Tryz.prog 129 #[.bool h, .pointer (some ⟨g, i, none⟩), .pointer (some ⟨p, 0, none⟩)] W _
  cases h
  · go_enter Tryz.func129, Tryz.ntmps129
    go_wp2
    go_end0
    exact ⟨rfl, by simpa [fldC] using hA, Turn.refl _ _⟩
  · obtain ⟨A, n, c, hB, ho⟩ := hA
    have hx0 := Byt.of_own ho
    have hnil := own_form ho
    obtain ⟨_, _, hv, hnil, hnc, hcm⟩ := hnil
    cases hv
    have hln : n = l.length := by have := own_len ho; simpa using this.symm
    have HO := Lib.hid ho
    have z0 := hB.cell 0
    have f0 := hB.frozen 0
    simp at z0
    have HLN := Lib.hid hln
    have hn8 : n ≤ 1000000 := by omega
    clear ho hln
    go_enter Tryz.func129, Tryz.ntmps129
    have hP := put_q A n c l 8 x (by omega) W.drew hx0.drew (fun e => (hnil e).2) (by omega) 8 (by decide) (Lib.hid rfl)
    have hlt := hB.lt
    have hgl := block_lt_of_cell hc
    simp only at hgl
    go_wp2_with fail
    go_region_with ((go_at_call 128; refine hP.mono ?_; rintro e w7 ⟨v7, rfl, hown7, hb7⟩; obtain ⟨A7, c7, rfl, hr1, hr2, hr3⟩ := own_form hown7; have y0 := (hb7.cell (p := ⟨p, 0, none⟩) hlt).trans z0; have yz := (hb7.frozen (p := ⟨p, 0, none⟩) hlt).trans f0; have y1 := (hb7.cell (p := ⟨g, i, none⟩) hgl).trans hc))
    all_goals
      have hb : Below W.heap.size W w7 := ⟨hb7.os, hb7.tape, hb7.output, hb7.size, hb7.block⟩
      go_wp2_with fail
      go_end0
      exact ⟨rfl, Acc.store hB hb hown7, turn_store hb⟩

/-- What is kept while the fields are put. -/
def EncI (W : World) (g p : Nat) (cs : List Value) (l : List UInt8) (w : World) : Prop :=
  Acc w p l ∧ Blk w g 35 cs ∧ Below W.heap.size W w
theorem EncI.step {W w w' : World} {g p : Nat} {cs : List Value} {l l' : List UInt8} (h : EncI W g p cs l w) (hg : W.heap.size ≤ g) (hp : g < p) (hA : Acc w' p l') (ht : Turn (fun k => k = p) w w') : EncI W g p cs l' w' :=
  ⟨hA, ht.blk h.2.1 (by omega), h.2.2.trans (ht.below h.2.2.size fun k hk => by omega)⟩
theorem fldC_len (h : Bool) (x : Nat) : (fldC h x).length ≤ 8 := by
  unfold fldC
  split
  · rw [le_len]; omega
  · simp

set_option maxRecDepth 100000 in
set_option maxHeartbeats 1000000 in
theorem encFields_any (W : World) (g p : Nat) (s : Nat) (k : Int) (T : ByteArray) (l n b : Nat) (hl : l < 18446744073709551616) (hn : n < 18446744073709551616) (hb : b < 18446744073709551616) (L : List UInt8) (hL : L.length ≤ 1000) (hg : W.heap.size ≤ g) (hp : g < p) (w : World) (hI : EncI W g p (rcCs s k T l n b) L w) :
    Calls Tryz.prog 83 #[.pointer (some ⟨g, 0, none⟩), .func (.func 129) #[] #[.pointer (some ⟨p, 0, none⟩)]] w fun e w' => e = .returned (.tuple #[]) ∧ EncI W g p (rcCs s k T l n b) (((L ++ fldC (kL k) l) ++ fldC (kN k) n) ++ fldC (kB k) b) w' := by
  have h1 := fldC_len (kL k) l
  have h2 := fldC_len (kN k) n
  refine rfields_any _ _ k g _ (EncI W g p (rcCs s k T l n b) (L ++ fldC (kL k) l)) (EncI W g p (rcCs s k T l n b) ((L ++ fldC (kL k) l) ++ fldC (kN k) n)) _ w enters_enc (by rw [hI.2.1.cell]; rfl) hI ?_ ?_ ?_
  · intro w hI
    refine (encF_any _ p g 3 l _ w hl hI.1 (by omega) (by rw [hI.2.1.cell]; rfl) (by omega)).mono ?_
    rintro e w' ⟨rfl, hA, ht⟩
    exact ⟨rfl, hI.step hg hp hA ht⟩
  · intro w hI
    refine (encF_any _ p g 4 n _ w hn hI.1 (by simp; omega) (by rw [hI.2.1.cell]; rfl) (by omega)).mono ?_
    rintro e w' ⟨rfl, hA, ht⟩
    exact ⟨rfl, hI.step hg hp hA ht⟩
  · intro w hI
    refine (encF_any _ p g 5 b _ w hb hI.1 (by simp; omega) (by rw [hI.2.1.cell]; rfl) (by omega)).mono ?_
    rintro e w' ⟨rfl, hA, ht⟩
    exact ⟨rfl, hI.step hg hp hA ht⟩

set_option maxRecDepth 100000 in
theorem encode_no (s : Nat) (k : Int) (T : ByteArray) (l n b : Nat) (hT : T.size ≤ maxLen) (hb : b < 18446744073709551616) (W : World) (hD : DK W) (c : Int) (hc : checkC ⟨s, k, T.data.toList, l, n, b⟩ = c) (h0 : c ≠ 0) :
    Calls Tryz.prog 88 #[rcV s k T l n b] W fun e W' => e = .returned (.tuple #[.slice none 0 0, .int .i64 c]) ∧ Below W.heap.size W W' := by
  have cC := fun w hw => check_any s k T l n b hT hb w hw
  rw [hc] at cC
  unfold rcV at cC ⊢
  have hq : (c != 0) = true := by simpa using h0
  have hB := (Below.refl W.heap.size W).alloc (Nat.le_refl _) (.cells (rcCs s k T l n b).toArray 35)
  have hD1 := dk_below hD hB (Nat.le_refl _)
  clear hc h0
  go_enter Tryz.func88, Tryz.ntmps88
  go_wp2_with (go_at_call 34; refine (cC _ hD1).mono ?_; rintro e w2 ⟨rfl, hb2⟩)
  go_ret2
  exact ⟨rfl, hB.trans (hb2.mono (by simp))⟩

set_option maxRecDepth 100000 in
set_option maxHeartbeats 2000000 in
theorem encode_ok (s : Nat) (k : Int) (T : ByteArray) (l n b : Nat) (hs : s < 18446744073709551616) (hl : l < 18446744073709551616) (hn : n < 18446744073709551616) (hb : b < 18446744073709551616) (hT : T.size ≤ maxLen) (W : World) (hD : DK W) (hc : checkC ⟨s, k, T.data.toList, l, n, b⟩ = 0) :
    Calls Tryz.prog 88 #[rcV s k T l n b] W fun e W' => ∃ v m, e = .returned (.tuple #[v, .int .i64 0]) ∧ W'.ownsRow W.heap.size 5 1 v m ((encC ⟨s, k, T.data.toList, l, n, b⟩).map bv) ∧ Below W.heap.size W W' := by
  obtain ⟨i0, hi, hz0, hz1, hz2⟩ := info_parts Tryz.info5
  obtain ⟨h1, h2, _, _, _⟩ := check_parts _ hc
  have hk : 1 ≤ k ∧ k ≤ 5 := by unfold isK at h1; simpa using h1
  have hsz : T.data.toList.length = T.size := by simp
  have ht : T.size ≤ 16 := by have := (ten_len _ h2).2; simp only at this; omega
  have cC := fun w hw => check_any s k T l n b hT hb w hw
  rw [hc] at cC
  obtain ⟨kk, rfl⟩ : ∃ j : Nat, k = (j : Int) := ⟨k.toNat, by omega⟩
  have hkw : IntKind.u64.wrap (kk : Int) = (kk : Int) := by rw [IntKind.wrap_u64]; omega
  have htw : IntKind.u64.wrap (T.size : Int) = (T.size : Int) := by rw [IntKind.wrap_u64]; omega
  have HK := Lib.hid hk
  have HT := Lib.hid ht
  unfold rcV at cC ⊢
  have hB := (Below.refl W.heap.size W).alloc (Nat.le_refl _) (.cells (rcCs s kk T l n b).toArray 35)
  have hD1 := dk_below hD hB (Nat.le_refl _)
  have hN := Blk.new (cs := rcCs s kk T l n b) W 35 _ rfl
  clear hc h1 h2 hk ht
  go_enter Tryz.func88, Tryz.ntmps88
  go_wp2_with (go_at_call 34; refine (cC _ hD1).mono ?_; rintro e w2 ⟨rfl, hb2⟩; have hN2 := hN.below hb2 hN.lt; obtain ⟨z0, z1, z2, z3, z4, z5⟩ := rc_cells hN2; have hB2 := hB.trans (hb2.mono hB.size); clear hb2)
  refine (put_q none 0 0 [] 1 kk (by have := HK.out; omega) w2 Byt.nil (fun _ => rfl) (by omega) 1 (by decide) (Lib.hid rfl)).mono ?_
  rintro e w3 ⟨v3, rfl, ho3, hb3⟩
  simp only [show 0 + 1 = 1 from rfl] at ho3
  obtain ⟨A3, c3, rfl, hr1, hr2, hr3⟩ := own_form ho3
  have hx3 := Byt.of_own ho3
  have hN3 := hN2.below hb3 hN2.lt
  have hB3 := hB2.trans (hb3.mono hB2.size)
  clear z0 z1 z2 z3 z4 z5 hN2 hB2 hb3 ho3
  obtain ⟨z0, z1, z2, z3, z4, z5⟩ := rc_cells hN3
  have hP3 := Blk.new (cs := [.slice A3 1 c3]) w3 70 _ rfl
  have hN4 := hN3.alloc (.cells #[.slice A3 1 c3] 70)
  have hB4 := hB3.alloc hB3.size (.cells #[.slice A3 1 c3] 70)
  have hlt3 := hN3.lt
  go_wp2_with fail
  refine (put_q A3 1 c3 _ 8 s (by omega) _ ((hx3.alloc (Nat.le_refl _) _).more (by simp)) (fun h => (hr1 h).2) (by omega) 8 (by decide) (Lib.hid rfl)).mono ?_
  rintro e w5 ⟨v5, rfl, ho5, hb5⟩
  simp only [show 1 + 8 = 9 from rfl] at ho5
  obtain ⟨A5, c5, rfl, hq1, hq2, hq3⟩ := own_form ho5
  obtain ⟨hP6, ho6⟩ := acc_store hP3 hb5 ho5
  have ht5 := turn_store (p := w3.heap.size) (v := .slice A5 9 c5) hb5
  have hN6 := ht5.blk hN4 (by omega)
  have hB6 := hB4.trans (ht5.below hB4.size fun k hk => by omega)
  have y0 := (hP3.below hb5 hP3.lt).cell 0
  have yf := (hP3.below hb5 hP3.lt).frozen 0
  simp only [List.getElem?_cons_zero] at y0
  clear z0 z1 z2 z3 z4 z5 hN3 hB3 hN4 hB4 ht5 hb5 ho5
  obtain ⟨z0, z1, z2, z3, z4, z5⟩ := rc_cells hN6
  go_wp2_with fail
  refine (put_q A5 9 c5 _ 1 T.size (by have := HT.out; omega) _ (Byt.of_own ho6) (fun h => (hq1 h).2) (by omega) 1 (by decide) (Lib.hid rfl)).mono ?_
  rintro e w7 ⟨v7, rfl, ho7, hb7⟩
  simp only [show 9 + 1 = 10 from rfl] at ho7
  obtain ⟨A7, c7, rfl, hs1, hs2, hs3⟩ := own_form ho7
  obtain ⟨hP8, ho8⟩ := acc_store hP6 hb7 ho7
  have ht7 := turn_store (p := w3.heap.size) (v := .slice A7 10 c7) hb7
  have hN8 := ht7.blk hN6 (by omega)
  have hB8 := hB6.trans (ht7.below hB6.size fun k hk => by omega)
  have y2 := (hP6.below hb7 hP6.lt).cell 0
  have yf2 := (hP6.below hb7 hP6.lt).frozen 0
  simp only [List.getElem?_cons_zero] at y2
  clear z0 z1 z2 z3 z4 z5 hN6 hB6 ht7 hb7 ho7 y0 yf hP6 ho6
  obtain ⟨z0, z1, z2, z3, z4, z5⟩ := rc_cells hN8
  go_wp2_with (at_builtin; refine Lib.wpList_append_own_string _ rfl _ _ 70 9 rfl (w3.heap.size + 1) 5 i0 Tryz.underlying70 Tryz.underlying9 hi hz0 hz1 hz2 _ _ _ rfl ho8 T rfl (by have := HT.out; unfold maxLen; omega) (by have := HT.out; omega) hP8.lt ?_; intro v9 w9 ho9 hg9 _; obtain ⟨A9, c9, rfl, ht1, ht2, ht3⟩ := own_form ho9; have hb9 := acc_step (Below.refl _ _) hP8.lt ho8 hg9; have hP9 := hP8.below hb9 (Nat.lt_succ_self _); have hN9 := hN8.below hb9 (by omega); have hB9 := hB8.trans (hb9.mono (by omega)); have x0 := hP9.cell 0; have xf := hP9.frozen 0; simp only [List.getElem?_cons_zero] at x0; clear z0 z1 z2 z3 z4 z5 hN8 hB8 hg9 hb9 y2 yf2; obtain ⟨z0, z1, z2, z3, z4, z5⟩ := rc_cells hN9)
  have hI : EncI W W.heap.size w3.heap.size (rcCs s kk T l n b) (([] ++ le 1 kk ++ le 8 s ++ le 1 T.size) ++ T.data.toList) (w9.setCell ⟨w3.heap.size, 0, none⟩ (.slice A9 (10 + T.size) c9)) := by
    refine ⟨⟨A9, _, c9, hP9.set 0 _, ?_⟩, hN9.other _ _ (by simp; omega), ?_⟩
    · rw [setCell_row hP9]
      exact own_setRow (own_cast ho9 (by rw [str_cells]; simp)) (by omega) _
    · rw [setCell_row hP9]
      exact below_row hB9 (by omega) _
  have hF := encFields_any W W.heap.size w3.heap.size s kk T l n b hl hn hb _ (by have := HT.out; simp [le_len, hsz]; omega) (Nat.le_refl _) hlt3 _ hI
  have hE : (((([] ++ le 1 kk ++ le 8 s ++ le 1 T.size) ++ T.data.toList) ++ fldC (kL kk) l) ++ fldC (kN kk) n) ++ fldC (kB kk) b = encC ⟨s, kk, T.data.toList, l, n, b⟩ := by
    unfold encC
    simp [hsz, le]
  rw [hE] at hF
  have hmf : ∀ (fn : Fn) (first cap : Array Value) (w : World), (Instr.makeFunc fn first cap).run Tryz.prog w = .ok (.func fn first cap) w := fun _ _ _ _ => rfl
  clear hI hE
  go_wp2_with fail
  refine hF.mono ?_
  rintro e w11 ⟨rfl, ⟨A, m, c, hP, ho⟩, hN11, hB11⟩
  have x1 := hP.cell 0
  simp only [List.getElem?_cons_zero] at x1
  go_wp2_with fail
  go_ret2
  exact ⟨_, _, rfl, own_mono ho (by omega), hB11⟩

end Go.Proofs.YthjikbhjciphiaaGreatDoor
