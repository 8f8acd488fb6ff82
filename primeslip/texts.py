"""Texts: slips that are written, and texts that are read to slips."""

from primeslip.errors import NoText
from primeslip.powers import BOUND
from primeslip.slips import is_slip


def row_text(row):
    """The line of a row."""
    number, word, facts = row
    words = [str(number), word]
    if word == "prime":
        words.append(str(facts[0]))
        words.extend([f"{q}^{times}" for q, times in facts[1]])
    else:
        words.extend([str(fact) for fact in facts])
    return " ".join(words)


def written(slip):
    """The text of a slip."""
    return "\n".join([row_text(row) for row in slip])


def number_of(figures):
    """The number that figures mean."""
    # The length stands here because int itself refuses thousands of figures.
    if not figures.isdecimal() or len(figures) > len(str(BOUND)):
        raise NoText("no figures of a number up to the bound")
    return int(figures)


def numbers_of(words):
    """The numbers that words of figures mean."""
    return tuple([number_of(figures) for figures in words])


def facts_of(word, rest):
    """The facts behind a word, of the words that follow it."""
    if word != "prime":
        return numbers_of(rest)
    if len(rest) == 0:
        raise NoText("a base is missing")
    return number_of(rest[0]), tuple([numbers_of(pair.split("^")) for pair in rest[1:]])


def row_of(line):
    """What would be the row of a line, if it were a row."""
    words = line.split(" ")
    if len(words) < 2:
        raise NoText("a line has a number and a word")
    return number_of(words[0]), words[1], facts_of(words[1], words[2:])


def read(text):
    """The slip of which a text is the text."""
    slip = tuple([row_of(line) for line in text.split("\n")])
    # Figures with noughts ahead mean a number too, but no slip is written so.
    if not is_slip(slip) or written(slip) != text:
        raise NoText("not the text of a slip")
    return slip
